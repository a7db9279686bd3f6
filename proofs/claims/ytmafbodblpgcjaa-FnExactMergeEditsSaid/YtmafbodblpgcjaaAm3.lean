/- The machine over data (Am1, Am2, Am3). -/
import Derived.Test.YtmafbodblpgcjaaRows
import Derived.WalkKit
import Derived.WalkLawsBesides
import Derived.Lib.Hide
import Derived.Deep.Draws
import Derived.Deep.Slices
import Derived.Deep.AppendLies
import Derived.Deep.Quiet
import Derived.ChangeSame
/- A machine over data: slots hold data (scalars, structs, lists that may only be read, rows that the call owns), no memory is named. Definitions, and what a slot's datum says of the memory. -/
namespace Go.Proofs.Ytmafbodblpgcjaa.AM
open Go Go.RowKit

inductive AV where
  | any
  | v (x : Value)
  | agg (xs : List AV)
  | lst (sz : Nat) (xs : List AV)
  | ptr (x : AV)
  | own (l : Nat)
  | optr (l i : Nat) (p : List Nat) (c : Nat)
  | tup (xs : List AV)
  | mapv (l : Nat)
  deriving Inhabited

mutual
def asz : AV → Nat
  | .agg xs => aszs xs
  | _ => 1
def aszs : List AV → Nat
  | [] => 0
  | x :: xs => asz x + aszs xs
end

mutual
/-- the cells cs read as the datum, every row that is met lying in blocks of S -/
def RA (S : Nat → Prop) (w : World) : AV → List Value → Prop
  | .v x, cs => cs = [x] ∧ x.oneCell' = true
  | .agg xs, cs => RL S w xs cs
  | .lst sz xs, cs => ∃ A c, cs = [.slice A xs.length c] ∧ xs.length ≤ c ∧ c ≤ maxLen ∧ (∀ x ∈ xs, asz x = sz) ∧ 0 < sz ∧
      (xs = [] ∨ ∃ b off us, A = some ⟨b, off, none⟩ ∧ S b ∧ RL S w xs us ∧ ∀ j u, us[j]? = some u → w.cell? ⟨b, off + j, none⟩ = some u)
  | _, _ => False
def RL (S : Nat → Prop) (w : World) : List AV → List Value → Prop
  | [], cs => cs = []
  | x :: xs, cs => ∃ c1 c2, cs = c1 ++ c2 ∧ RA S w x c1 ∧ RL S w xs c2
end

structure OB where
  e : TypeId
  sz : Nat
  xs : List AV

mutual
def AV.names (l : Nat) : AV → Bool
  | .own l' => Nat.beq l' l
  | .optr l' _ _ _ => Nat.beq l' l
  | .mapv l' => Nat.beq l' l
  | .tup xs => namesL l xs
  | _ => false
def namesL (l : Nat) : List AV → Bool
  | [] => false
  | x :: xs => x.names l || namesL l xs
end

structure St where
  sl : Nat → AV
  hp : Nat → Option OB
  mp : Nat → Option (List (ByteArray × AV))

def St.ev (s : St) : Operand → AV
  | .tmp t => s.sl t
  | .const c => .v c
  | _ => .any
def St.put (s : St) (d : Option Tmp) (x : AV) : St :=
  match d with
  | some t => ⟨fun j => bif Nat.beq j t then x else s.sl j, s.hp, s.mp⟩
  | none => s
def St.set (s : St) (l : Nat) (o : Option OB) : St := ⟨s.sl, fun j => bif Nat.beq j l then o else s.hp j, fun j => bif Nat.beq j l then none else s.mp j⟩
/-- a map's entries -/
def St.setM (s : St) (l : Nat) (o : List (ByteArray × AV)) : St := ⟨s.sl, s.hp, fun j => bif Nat.beq j l then some o else s.mp j⟩
/-- a row comes to another label; who named either forgets it -/
def St.relab (s : St) (l L : Nat) (ob : OB) : St := ⟨fun j => bif (s.sl j).names l || (s.sl j).names L then .any else s.sl j, fun j => bif Nat.beq j L then some ob else bif Nat.beq j l then none else s.hp j, fun j => bif Nat.beq j L || Nat.beq j l then none else s.mp j⟩
/-- no slot names l any more -/
def St.kill (s : St) (l : Nat) : St := ⟨fun j => bif (s.sl j).names l then .any else s.sl j, s.hp, s.mp⟩

mutual
def RV (S : Nat → Prop) (w : World) (hp : Nat → Option OB) (B : Nat → Nat) (V : Nat → Value) : AV → Value → Prop
  | .any, _ => True
  | .v x, u => u = x ∧ x.oneCell' = true
  | .agg xs, u => ∃ cs, u = .agg cs.toArray ∧ RL S w xs cs
  | .lst sz xs, u => RA S w (.lst sz xs) [u]
  | .ptr x, u => ∃ b off us, u = .pointer (some ⟨b, off, none⟩) ∧ S b ∧ RA S w x us ∧ ∀ j y, us[j]? = some y → w.cell? ⟨b, off + j, none⟩ = some y
  | .own l, u => (∃ ob, hp l = some ob) ∧ u = V l
  | .optr l i _ c, u => ∃ ob, hp l = some ob ∧ u = .pointer (some ⟨B l, i * ob.sz + c, none⟩)
  | .tup xs, u => ∃ us, u = .tuple us.toArray ∧ RVs S w hp B V xs us
  | .mapv l, u => (∃ ob, hp l = some ob) ∧ u = .map (some (B l))
def RVs (S : Nat → Prop) (w : World) (hp : Nat → Option OB) (B : Nat → Nat) (V : Nat → Value) : List AV → List Value → Prop
  | [], us => us = []
  | x :: xs, us => ∃ u us', us = u :: us' ∧ RV S w hp B V x u ∧ RVs S w hp B V xs us'
end

/-- what the call owns: the row's value is V, in block B -/
def RO (S : Nat → Prop) (w : World) (base : Nat) (ob : OB) (B : Nat) (V : Value) : Prop :=
  ∃ cs, RL S w ob.xs cs ∧ (∀ x ∈ ob.xs, asz x = ob.sz) ∧ 0 < ob.sz ∧ w.ownsRow base ob.e ob.sz V ob.xs.length cs ∧ ∀ g, V.ownBlock = some g → g = B ∧ ¬ S g

/-- what a map's entries are -/
def MapR : List (ByteArray × AV) → List MapEntry → Prop
  | [], es => es = []
  | (k, y) :: xs, es => ∃ e r, es = e :: r ∧ e.key = .string k ∧ (∀ S w hp B V, RV S w hp B V y e.val) ∧ MapR xs r
/-- the call's own maps -/
def Mps (W w : World) (S : Nat → Prop) (hp : Nat → Option OB) (mp : Nat → Option (List (ByteArray × AV))) (B : Nat → Nat) (V : Nat → Value) : Prop :=
  (∀ l es, mp l = some es → (∃ ob, hp l = some ob) ∧ W.heap.size ≤ B l ∧ B l < w.heap.size ∧ ¬ S (B l) ∧ (∀ l' ob, hp l' = some ob → (V l').ownBlock ≠ some (B l)) ∧ ∃ arr clock, w.heap[B l]? = some (.map arr clock) ∧ MapR es arr.toList) ∧
  ∀ l l' es es', mp l = some es → mp l' = some es' → B l = B l' → l = l'
theorem Mps.carry {W w w' : World} {S S' : Nat → Prop} {hp hp' : Nat → Option OB} {mp mp' : Nat → Option (List (ByteArray × AV))} {B B' : Nat → Nat} {V V' : Nat → Value} (h : Mps W w S hp mp B V) (hm : ∀ l es, mp' l = some es → mp l = some es) (hh : ∀ l es, mp' l = some es → (∃ ob, hp l = some ob) → ∃ ob, hp' l = some ob) (hB : ∀ l es, mp' l = some es → B' l = B l)
    (hw : ∀ l es, mp' l = some es → B l < w.heap.size → ¬ S (B l) → (∀ l' ob, hp l' = some ob → (V l').ownBlock ≠ some (B l)) → W.heap.size ≤ B l → w'.heap[B l]? = w.heap[B l]? ∧ B l < w'.heap.size ∧ ¬ S' (B l) ∧ ∀ l' ob, hp' l' = some ob → (V' l').ownBlock ≠ some (B l)) : Mps W w' S' hp' mp' B' V' := by
  refine ⟨fun l es e => ?_, fun l l' es es' e e' he => ?_⟩
  · obtain ⟨a1, a2, a3, a4, a5, arr, clock, a6, a7⟩ := h.1 l es (hm l es e)
    obtain ⟨b1, b2, b3, b4⟩ := hw l es e a3 a4 a5 a2
    rw [hB l es e]
    exact ⟨hh l es e a1, a2, b2, b3, b4, arr, clock, b1.trans a6, a7⟩
  · rw [hB l es e, hB l' es' e'] at he
    exact h.2 l l' es es' (hm l es e) (hm l' es' e') he
theorem Mps.none {W w : World} {S : Nat → Prop} {hp : Nat → Option OB} {B : Nat → Nat} {V : Nat → Value} : Mps W w S hp (fun _ => .none) B V := ⟨(fun l es e => by cases e), (fun l l' es es' e => by cases e)⟩
def mb (M : Option Value) : Option Nat := M.bind Value.ownBlock
structure SimW (W : World) (M : Option Value) (S0 : Nat → Prop) (s : St) (tmps : Array Value) (w : World) (S : Nat → Prop) (B : Nat → Nat) (V : Nat → Value) : Prop where
  below : W.grownBy w (mb M)
  s0 : ∀ b, S0 b → S b
  slt : ∀ b, S b → b < w.heap.size ∧ (S0 b ∨ W.heap.size ≤ b ∨ mb M = some b)
  sl : ∀ t, RV S w s.hp B V (s.sl t) (tmps.getD t undef)
  hp : ∀ l ob, s.hp l = some ob → RO S w 0 ob (B l) (V l)
  dist : ∀ l l' ob ob' g, s.hp l = some ob → s.hp l' = some ob' → (V l).ownBlock = some g → (V l').ownBlock = some g → l = l'
  mine : ∀ l ob g, s.hp l = some ob → (V l).ownBlock = some g → W.heap.size ≤ g ∨ mb M = some g
  pin : ∀ u, M = some u → V 0 = u
  mps : Mps W w S s.hp s.mp B V

def Sim (W : World) (M : Option Value) (S0 : Nat → Prop) (n : Nat) (s : St) (a : Act) (w : World) : Prop :=
  a.tmps.size = n ∧ a.defers = [] ∧ ∃ S B V, SimW W M S0 s a.tmps w S B V

theorem grown_trans {a b c : World} {M r : Option Nat} (h : a.grownBy b M) (k : b.grownBy c r) (hr : ∀ g, r = some g → g < a.heap.size → M = some g) : a.grownBy c M :=
  ⟨k.os.trans h.os, k.tape.trans h.tape, k.output.trans h.output, Nat.le_trans h.size k.size, fun i hi hM => (k.block i (Nat.lt_of_lt_of_le hi h.size) (fun e => hM (hr i e.symm hi).symm)).trans (h.block i hi hM)⟩
theorem grown_of_below {a b : World} (h : Below a.heap.size a b) (M : Option Nat) : a.grownBy b M := ⟨h.os, h.tape, h.output, h.size, fun k hk _ => h.block k hk⟩
theorem below_of_grown {a b : World} (h : a.grownBy b none) : Below a.heap.size a b := ⟨h.os, h.tape, h.output, h.size, fun k hk => h.block k hk (by simp)⟩

/-! ### the words carry over -/
section
variable {S S' : Nat → Prop} {w w' : World}
theorem cell_same {b : Nat} (hw : w'.heap[b]? = w.heap[b]?) (o : Nat) : w'.cell? ⟨b, o, none⟩ = w.cell? ⟨b, o, none⟩ := World.cell?_of_block (a := ⟨b, o, none⟩) hw
mutual
theorem RA.mono (hS : ∀ b, S b → S' b) (hw : ∀ b, S b → w'.heap[b]? = w.heap[b]?) : ∀ (x : AV) (cs : List Value), RA S w x cs → RA S' w' x cs
  | .v x, cs, h => by unfold RA at h ⊢; exact h
  | .agg xs, cs, h => by unfold RA at h ⊢; exact RL.mono hS hw xs cs h
  | .lst sz xs, cs, h => by
    unfold RA at h ⊢
    obtain ⟨A, c, h1, h2, h3, h4, h4', h5⟩ := h
    refine ⟨A, c, h1, h2, h3, h4, h4', ?_⟩
    rcases h5 with h5 | ⟨b, off, us, e, hb, hr, hc⟩
    · exact .inl h5
    · exact .inr ⟨b, off, us, e, hS b hb, RL.mono hS hw xs us hr, fun j u hu => (cell_same (hw b hb) _).trans (hc j u hu)⟩
  | .any, cs, h => by unfold RA at h; exact h.elim
  | .ptr _, cs, h => by unfold RA at h; exact h.elim
  | .own _, cs, h => by unfold RA at h; exact h.elim
  | .optr _ _ _ _, cs, h => by unfold RA at h; exact h.elim
  | .tup _, cs, h => by unfold RA at h; exact h.elim
  | .mapv _, cs, h => by unfold RA at h; exact h.elim
theorem RL.mono (hS : ∀ b, S b → S' b) (hw : ∀ b, S b → w'.heap[b]? = w.heap[b]?) : ∀ (xs : List AV) (cs : List Value), RL S w xs cs → RL S' w' xs cs
  | [], cs, h => by unfold RL at h ⊢; exact h
  | x :: xs, cs, h => by
    unfold RL at h ⊢
    obtain ⟨c1, c2, e, h1, h2⟩ := h
    exact ⟨c1, c2, e, RA.mono hS hw x c1 h1, RL.mono hS hw xs c2 h2⟩
end
mutual
theorem RA.size : ∀ (x : AV) (cs : List Value), RA S w x cs → cs.length = asz x
  | .v x, cs, h => by unfold RA at h; rw [h.1]; rfl
  | .agg xs, cs, h => by unfold RA at h; unfold asz; exact RL.size xs cs h
  | .lst sz xs, cs, h => by unfold RA at h; obtain ⟨A, c, h1, _⟩ := h; rw [h1]; rfl
  | .any, cs, h => by unfold RA at h; exact h.elim
  | .ptr _, cs, h => by unfold RA at h; exact h.elim
  | .own _, cs, h => by unfold RA at h; exact h.elim
  | .optr _ _ _ _, cs, h => by unfold RA at h; exact h.elim
  | .tup _, cs, h => by unfold RA at h; exact h.elim
  | .mapv _, cs, h => by unfold RA at h; exact h.elim
theorem RL.size : ∀ (xs : List AV) (cs : List Value), RL S w xs cs → cs.length = aszs xs
  | [], cs, h => by unfold RL at h; rw [h]; rfl
  | x :: xs, cs, h => by
    unfold RL at h
    obtain ⟨c1, c2, e, h1, h2⟩ := h
    unfold aszs
    rw [e, List.length_append, RA.size x c1 h1, RL.size xs c2 h2]
end
mutual
theorem RA.one : ∀ (x : AV) (cs : List Value), RA S w x cs → ∀ u ∈ cs, u.oneCell' = true
  | .v x, cs, h => by unfold RA at h; rw [h.1]; simpa using h.2
  | .agg xs, cs, h => by unfold RA at h; exact RL.one xs cs h
  | .lst sz xs, cs, h => by unfold RA at h; obtain ⟨A, c, h1, _⟩ := h; rw [h1]; simp [Value.oneCell']
  | .any, cs, h => by unfold RA at h; exact h.elim
  | .ptr _, cs, h => by unfold RA at h; exact h.elim
  | .own _, cs, h => by unfold RA at h; exact h.elim
  | .optr _ _ _ _, cs, h => by unfold RA at h; exact h.elim
  | .tup _, cs, h => by unfold RA at h; exact h.elim
  | .mapv _, cs, h => by unfold RA at h; exact h.elim
theorem RL.one : ∀ (xs : List AV) (cs : List Value), RL S w xs cs → ∀ u ∈ cs, u.oneCell' = true
  | [], cs, h => by unfold RL at h; rw [h]; simp
  | x :: xs, cs, h => by
    unfold RL at h
    obtain ⟨c1, c2, e, h1, h2⟩ := h
    intro u hu
    rw [e, List.mem_append] at hu
    rcases hu with hu | hu
    · exact RA.one x c1 h1 u hu
    · exact RL.one xs c2 h2 u hu
end
theorem RL.app : ∀ {xs ys : List AV} {cs ds : List Value}, RL S w xs cs → RL S w ys ds → RL S w (xs ++ ys) (cs ++ ds)
  | [], ys, cs, ds, h, k => by unfold RL at h; subst h; exact k
  | x :: xs, ys, cs, ds, h, k => by
    unfold RL at h
    obtain ⟨c1, c2, e, h1, h2⟩ := h
    show RL S w (x :: (xs ++ ys)) _
    unfold RL
    exact ⟨c1, c2 ++ ds, by rw [e, List.append_assoc], h1, RL.app h2 k⟩
theorem RL.sing {x : AV} {cs : List Value} (h : RA S w x cs) : RL S w [x] cs := by
  unfold RL; exact ⟨cs, [], by simp, h, by unfold RL; rfl⟩
theorem RL.ofSing {x : AV} {cs : List Value} (h : RL S w [x] cs) : RA S w x cs := by
  unfold RL at h; obtain ⟨c1, c2, e, h1, h2⟩ := h; unfold RL at h2; subst h2; rw [e, List.append_nil]; exact h1
theorem aszs_const {sz : Nat} : ∀ {xs : List AV}, (∀ x ∈ xs, asz x = sz) → aszs xs = xs.length * sz
  | [], _ => by unfold aszs; simp
  | x :: xs, h => by
    unfold aszs
    rw [h x (by simp), aszs_const (fun y hy => h y (List.mem_cons_of_mem _ hy)), List.length_cons, Nat.add_mul, Nat.one_mul, Nat.add_comm]
/-- the part of the cells that belongs to the datum at place i -/
theorem RL.at : ∀ {xs : List AV} {cs : List Value} (i : Nat) {x : AV}, RL S w xs cs → xs[i]? = some x → ∃ us, RA S w x us ∧ aszs (xs.take i) + us.length ≤ cs.length ∧ (cs.drop (aszs (xs.take i))).take us.length = us ∧ ∀ j u, us[j]? = some u → cs[aszs (xs.take i) + j]? = some u
  | [], _, i, x, _, h => by simp at h
  | y :: xs, cs, 0, x, h, hx => by
    unfold RL at h
    obtain ⟨c1, c2, e, h1, h2⟩ := h
    simp at hx; subst hx
    refine ⟨c1, h1, ?_, ?_, ?_⟩
    · rw [e]; simp [aszs]
    · rw [e]; simp [aszs]
    · intro j u hu; rw [e]; simp [aszs]; rw [List.getElem?_append_left (List.getElem?_eq_some_iff.1 hu).1]; exact hu
  | y :: xs, cs, i + 1, x, h, hx => by
    unfold RL at h
    obtain ⟨c1, c2, e, h1, h2⟩ := h
    simp at hx
    obtain ⟨us, k1, k2, k3, k4⟩ := RL.at i h2 hx
    have hs := RA.size y c1 h1
    have ha : aszs ((y :: xs).take (i + 1)) = c1.length + aszs (xs.take i) := by rw [List.take_succ_cons]; rw [aszs, hs]
    refine ⟨us, k1, ?_, ?_, ?_⟩
    · rw [ha, e, List.length_append]; omega
    · rw [ha, e, List.drop_append, List.drop_eq_nil_of_le (by omega), List.nil_append, Nat.add_sub_cancel_left]; exact k3
    · intro j u hu; rw [ha, e, Nat.add_assoc, List.getElem?_append_right (by omega), Nat.add_sub_cancel_left]; exact k4 j u hu
end
end Go.Proofs.Ytmafbodblpgcjaa.AM
/- The machine over data: what an operation does to the slots' data, what a body does. -/
namespace Go.Proofs.Ytmafbodblpgcjaa.AM
open Go Go.RowKit

inductive TI where
  | non
  | str
  | int (k : IntKind)
  | bool
  | slice (e : TypeId) (sz bytes : Nat) (z : AV)
  | struct (fs : List (Nat × Nat)) (z : List AV)
  | map (kt vt : TypeId) (z : AV)

abbrev Tab := List (Nat × TI)
def Tab.look : Tab → Nat → TI
  | [], _ => .non
  | (t, x) :: r, u => bif Nat.beq t u then x else Tab.look r u

def offsOK (P : Program) : Nat → List Field → List (Nat × Nat) → Prop
  | _, [], [] => True
  | n, f :: fs, (o, z) :: r => f.offset = o ∧ o = n ∧ 0 < z ∧ (P.info? f.type).map (·.size) = some z ∧ offsOK P (n + z) fs r
  | _, _, _ => False
def sizes : List (Nat × Nat) → Nat
  | [] => 0
  | (_, z) :: r => z + sizes r
def NoS : Nat → Prop := fun _ => False
def TIok (P : Program) (t : TypeId) : TI → Prop
  | .non => True
  | .str => P.underlying t = some .string ∧ ∃ i, P.info? t = some i ∧ i.size = 1 ∧ i.zero = some (.string ByteArray.empty)
  | .int k => P.underlying t = some (.int k) ∧ ∃ i, P.info? t = some i ∧ i.size = 1 ∧ i.zero = some (.int k 0)
  | .bool => P.underlying t = some .bool ∧ ∃ i, P.info? t = some i ∧ i.size = 1 ∧ i.zero = some (.bool false)
  | .slice e sz by_ z => P.underlying t = some (.slice e) ∧ (∃ j, P.info? t = some j ∧ j.size = 1 ∧ j.zero = some (.slice none 0 0)) ∧
      ∃ i zv, P.info? e = some i ∧ i.zero = some zv ∧ i.size = sz ∧ i.bytes = by_ ∧ 0 < sz ∧ asz z = sz ∧ ∀ w, RA NoS w z zv.cells.toList
  | .struct fs z => ∃ fields i cs, P.underlying t = some (.struct fields) ∧ offsOK P 0 fields.toList fs ∧ P.info? t = some i ∧ i.size = sizes fs ∧ 0 < sizes fs ∧
      z.map asz = fs.map (·.2) ∧ i.zero = some (.agg cs) ∧ ∀ w, RL NoS w z cs.toList
  | .map kt vt z => P.underlying t = some (.map kt vt) ∧ P.underlying kt = some .string ∧ ∃ i zv, P.info? vt = some i ∧ i.zero = some zv ∧ ∀ S w hp B V, RV S w hp B V z zv
def mget : List (ByteArray × AV) → ByteArray → Option AV
  | [], _ => none
  | (k, y) :: r, q => if q = k then some y else mget r q
def mput : List (ByteArray × AV) → ByteArray → AV → List (ByteArray × AV)
  | [], q, v => [(q, v)]
  | (k, y) :: r, q, v => if q = k then (q, v) :: r else (k, y) :: mput r q v
def mdel : List (ByteArray × AV) → ByteArray → List (ByteArray × AV)
  | [], _ => []
  | (k, y) :: r, q => if q = k then r else (k, y) :: mdel r q
def TabOK (P : Program) (Θ : Tab) : Prop := ∀ t, TIok P t (Θ.look t)

structure Eff where
  val : AV
  upd : Option (St → St)
def St.app (s : St) (d : Option Tmp) (e : Eff) : St :=
  match e.upd with
  | none => s.put d e.val
  | some f => (f s).put d e.val

/-- what a value is, if the datum says it all -/
def conc : AV → Option Value
  | .v x => some x
  | .agg xs => (concL xs).map fun cs => .agg cs.toArray
  | _ => none
where
  concL : List AV → Option (List Value)
  | [] => some []
  | .v x :: r => (concL r).map (x :: ·)
  | _ :: _ => none

/-- an owned row becomes a list that is read alone -/
def St.frz (s : St) (l : Nat) : St :=
  match s.hp l with
  | none => s
  | some ob => ⟨fun j => match s.sl j with
      | .own l' => bif Nat.beq l' l then .lst ob.sz ob.xs else .own l'
      | x => bif x.names l then .any else x, fun j => bif Nat.beq j l then none else s.hp j, fun j => bif Nat.beq j l then none else s.mp j⟩
def frzL : List Nat → St → St
  | [], s => s
  | l :: ls, s => frzL ls (s.frz l)
/-- the datum that is stored -/
def St.dat (s : St) : AV → AV
  | .own l => match s.hp l with | some ob => .lst ob.sz ob.xs | none => .any
  | x => x
def ownsOf (s : St) : List Operand → List Nat
  | [] => []
  | x :: r => match s.ev x with | .own l => l :: ownsOf s r | _ => ownsOf s r
def frzU (ls : List Nat) : Option (St → St) := match ls with | [] => none | _ => some (frzL ls)
def frzT (ls : List Nat) (f : St → St) : Option (St → St) := some fun s => f (frzL ls s)

def isDataA : AV → Bool
  | .v x => x.oneCell'
  | .agg _ => true
  | .lst _ _ => true
  | _ => false
def setParts (s : St) : List AV → List (Nat × Operand) → List AV
  | z, [] => z
  | z, (i, x) :: r => setParts s (z.set i (s.dat (s.ev x))) r
def partsOK (s : St) : List AV → List (Nat × Operand) → Prop
  | _, [] => True
  | z, (i, x) :: r => (∃ y, z[i]? = some y ∧ asz (s.dat (s.ev x)) = asz y) ∧ isDataA (s.dat (s.ev x)) = true ∧ partsOK s (z.set i (s.dat (s.ev x))) r

def getP : AV → List Nat → Nat → Option (AV × Nat)
  | x, [], c => some (x, c)
  | .agg xs, i :: p, c => match xs[i]? with | some y => getP y p (c + aszs (xs.take i)) | none => none
  | _, _, _ => none
def setP : AV → List Nat → AV → AV
  | _, [], y => y
  | .agg xs, i :: p, y => match xs[i]? with | some x => .agg (xs.set i (setP x p y)) | none => .agg xs
  | x, _, _ => x
def isAggA : AV → Bool
  | .agg _ => true
  | _ => false
def TI.isAgg : TI → Bool
  | .struct _ _ => true
  | _ => false
def TI.size : TI → Nat
  | .struct fs _ => sizes fs
  | _ => 1
def TI.known : TI → Bool
  | .non => false
  | .map _ _ _ => false
  | _ => true
def TI.zero : TI → AV
  | .str => .v (.string ByteArray.empty)
  | .int k => .v (.int k 0)
  | .bool => .v (.bool false)
  | .slice _ sz _ _ => .lst sz []
  | .struct _ z => .agg z
  | .non => .any
  | .map _ _ _ => .any

structure Out where
  val : AV
  obs : List OB
mutual
def ren (d : Nat) : AV → AV
  | .own k => .own (d + 1000 * k)
  | .tup xs => .tup (renL d xs)
  | .optr _ _ _ _ => .any
  | .mapv _ => .any
  | x => x
def renL (d : Nat) : List AV → List AV
  | [] => []
  | x :: xs => ren d x :: renL d xs
end
def obsF (obs : List OB) : Nat → Option OB := fun l => obs[l]?
/-- the rows of a call's result come to labels -/
def setObs (d : Nat) : Nat → List OB → St → St
  | _, [], s => s
  | k, ob :: r, s => setObs d (k + 1) r (s.set (d + 1000 * k) (some ob))
def setU (d : Nat) (obs : List OB) : Option (St → St) :=
  match obs with
  | [] => none
  | _ => some (setObs d 0 obs)
def freeObs (s : St) (d : Nat) : Nat → List OB → Prop
  | _, [] => True
  | k, _ :: r => s.hp (d + 1000 * k) = none ∧ freeObs s d (k + 1) r

/-- A CALL over data: whatever the memory is in which the arguments read so, it comes back with the result -/
def AC (P : Program) (f : FuncId) (args : List AV) (out : Out) : Prop :=
  (∀ vs w, (callFunc f vs).run P w = .ok (.enter f vs) w) ∧ ∀ (w : World) (S0 : Nat → Prop) (vs : List Value), (∀ b, S0 b → b < w.heap.size) → RVs S0 w (fun _ => none) (fun _ => 0) (fun _ => undef) args vs →
    Calls P f vs.toArray w fun e w' => ∃ v S B V, e = .returned v ∧ Below w.heap.size w w' ∧ (∀ b, S0 b → S b) ∧ (∀ b, S b → b < w'.heap.size ∧ (S0 b ∨ w.heap.size ≤ b)) ∧
      RV S w' (obsF out.obs) B V out.val v ∧ (∀ l ob, obsF out.obs l = some ob → RO S w' w.heap.size ob (B l) (V l)) ∧
      ∀ l l' ob ob' g, obsF out.obs l = some ob → obsF out.obs l' = some ob' → (V l).ownBlock = some g → (V l').ownBlock = some g → l = l'

/-- A CALL that writes into a row of the caller's (its first argument), and hands back a plain value -/
def ACM (P : Program) (f : FuncId) (ob : OB) (xs' : List AV) (args : List AV) (v : Value) : Prop :=
  (∀ vs w, (callFunc f vs).run P w = .ok (.enter f vs) w) ∧ ∀ (w : World) (S0 : Nat → Prop) (B : Nat) (V : Value) (vs : List Value), (∀ b, S0 b → b < w.heap.size) → RO S0 w 0 ob B V → RVs S0 w (fun _ => none) (fun _ => 0) (fun _ => undef) args vs →
    Calls P f (V :: vs).toArray w fun e w' => e = .returned v ∧ w.grownBy w' V.ownBlock ∧ RO S0 w' 0 ⟨ob.e, ob.sz, xs'⟩ B V

mutual
def flatA : AV → Prop
  | .v _ => True
  | .agg xs => flatL xs
  | .own _ => True
  | .tup xs => flatL xs
  | .lst _ xs => xs = []
  | .any => True
  | _ => False
def flatL : List AV → Prop
  | [] => True
  | x :: xs => flatA x ∧ flatL xs
end
def Out.flat (o : Out) : Prop := flatA o.val ∧ ∀ ob ∈ o.obs, flatL ob.xs

def BinOK (P : Program) (op : BinOp) (t : TypeId) (x y : Operand) (a b r : Value) : Prop :=
  ∀ w, (do eqGuard op t x y a b; binOp op t a b).run P w = .ok r w

def isArgA : AV → Bool
  | .optr _ _ _ _ => false
  | .tup _ => false
  | .mapv _ => false
  | _ => true
def argsOK (s : St) : List Operand → Bool
  | [] => true
  | x :: r => isArgA (s.ev x) && argsOK s r
def lenA (s : St) : AV → Option Nat
  | .v (.string b) => some b.size
  | .lst _ xs => some xs.length
  | .own l => (s.hp l).map (·.xs.length)
  | _ => none
def lenOK (Θ : Tab) (t : TypeId) : AV → Prop
  | .v (.string _) => Θ.look t = .str
  | .lst _ _ | .own _ => ∃ e sz b z, Θ.look t = .slice e sz b z
  | _ => False

def Pre (P : Program) (Θ : Tab) (o : Oper) (s : St) (e : Eff) : Prop :=
  match o.op with
  | .move x | .assign x => (∀ c, x = .const c → c.oneCell' = true) ∧ (e = ⟨s.ev x, none⟩ ∨ (∃ l ob, s.ev x = .own l ∧ s.hp l = some ob ∧ e = ⟨.lst ob.sz ob.xs, some fun s => s.frz l⟩) ∨ (∃ d el sz, o.dst = some d ∧ 0 < sz ∧ x = .const (.slice none 0 0) ∧ e = ⟨.own (d + 1), some fun s => (s.kill (d + 1)).set (d + 1) (some ⟨el, sz, []⟩)⟩) ∨ ∃ l L ob, s.ev x = .own l ∧ s.hp l = some ob ∧ L ≠ 0 ∧ L ≠ l ∧ e = ⟨.own L, some fun s => s.relab l L ob⟩)
  | .nilCheck x => (∃ y, s.ev x = .ptr y ∧ e = ⟨.ptr y, none⟩) ∨ ∃ l i p c, s.ev x = .optr l i p c ∧ e = ⟨.optr l i p c, none⟩
  | .pick c a b => (∀ c, a = .const c → c.oneCell' = true) ∧ (∀ c, b = .const c → c.oneCell' = true) ∧ ∃ t, s.ev c = .v (.bool t) ∧ e = ⟨bif t then s.ev a else s.ev b, none⟩
  | .binOp op t x y _ => ∃ a b r, conc (s.ev x) = some a ∧ conc (s.ev y) = some b ∧ BinOK P op t x y a b r ∧ r.oneCell' = true ∧ e = ⟨.v r, none⟩
  | .unOp op _ x => ∃ a r, conc (s.ev x) = some a ∧ (∀ w, (Op.unary op a).run P w = .ok r w) ∧ r.oneCell' = true ∧ e = ⟨.v r, none⟩
  | .convert src dst x => ∃ a r, conc (s.ev x) = some a ∧ (∀ w, (convert src dst a).run P w = .ok r w) ∧ r.oneCell' = true ∧ e = ⟨.v r, none⟩
  | .index t x i => ∃ a b r, conc (s.ev x) = some a ∧ conc (s.ev i) = some b ∧ (∀ w, (Instr.index t a b).run P w = .ok r w) ∧ r.oneCell' = true ∧ e = ⟨.v r, none⟩
  | .slice t x lo hi mx => ∃ a r, conc (s.ev x) = some a ∧ (∀ y ∈ lo.toList ++ hi.toList ++ mx.toList, (conc (s.ev y)).isSome = true) ∧
      (∀ w, (Instr.sliceAt t a (lo.map fun y => (conc (s.ev y)).getD undef) (hi.map fun y => (conc (s.ev y)).getD undef) (mx.map fun y => (conc (s.ev y)).getD undef)).run P w = .ok r w) ∧ r.oneCell' = true ∧ e = ⟨.v r, none⟩
  | .extract x i => ∃ xs y, s.ev x = .tup xs ∧ xs[i]? = some y ∧ e = ⟨y, none⟩
  | .alloc t => ∃ d, o.dst = some d ∧ s.hp (d + 1) = none ∧ (Θ.look t).known = true ∧ e = ⟨.optr (d + 1) 0 [] 0, some fun s => s.set (d + 1) (some ⟨t, (Θ.look t).size, [(Θ.look t).zero]⟩)⟩
  | .box t x => ∃ d, o.dst = some d ∧ s.hp (d + 1) = none ∧ (Θ.look t).known = true ∧ asz (s.dat (s.ev x)) = (Θ.look t).size ∧ isDataA (s.dat (s.ev x)) = true ∧
      e = ⟨.optr (d + 1) 0 [] 0, frzT (ownsOf s [x]) fun s' => s'.set (d + 1) (some ⟨t, (Θ.look t).size, [s.dat (s.ev x)]⟩)⟩
  | .build t ps => ∃ fs z, Θ.look t = .struct fs z ∧ partsOK s z ps.toList ∧ e = ⟨.agg (setParts s z ps.toList), frzU (ownsOf s (ps.toList.map (·.2)))⟩
  | .buildSlice t n ps => ∃ d el sz b z, o.dst = some d ∧ s.hp (d + 1) = none ∧ Θ.look t = .slice el sz b z ∧ n * sz ≤ 65536 ∧ partsOK s (List.replicate n z) ps.toList ∧
      e = ⟨.own (d + 1), frzT (ownsOf s (ps.toList.map (·.2))) fun s' => s'.set (d + 1) (some ⟨el, sz, setParts s (List.replicate n z) ps.toList⟩)⟩
  | .makeSlice t l c => ∃ d el sz b z n k k', o.dst = some d ∧ s.hp (d + 1) = none ∧ Θ.look t = .slice el sz b z ∧ s.ev l = .v (.int k ((n : Nat) : Int)) ∧ s.ev c = .v (.int k' (n : Int)) ∧ b * n ≤ 140737488355328 ∧ n ≤ 9223372036854775807 ∧
      e = ⟨.own (d + 1), some fun s => s.set (d + 1) (some ⟨el, sz, List.replicate n z⟩)⟩
  | .load t x => (Θ.look t).known = true ∧ ((∃ y, s.ev x = .ptr y ∧ isAggA y = (Θ.look t).isAgg ∧ asz y = (Θ.look t).size ∧ e = ⟨y, none⟩) ∨
      ∃ l i p c ob y z, s.ev x = .optr l i p c ∧ s.hp l = some ob ∧ ob.xs[i]? = some y ∧ getP y p 0 = some (z, c) ∧ isAggA z = (Θ.look t).isAgg ∧ asz z = (Θ.look t).size ∧ e = ⟨z, none⟩)
  | .store t x y => ∃ l i p c ob q z, s.ev x = .optr l i p c ∧ s.hp l = some ob ∧ ob.xs[i]? = some q ∧ getP q p 0 = some (z, c) ∧ asz z = (Θ.look t).size ∧ (Θ.look t).known = true ∧ asz (s.dat (s.ev y)) = asz z ∧ isDataA (s.dat (s.ev y)) = true ∧ (ownsOf s [y]).contains l = false ∧
      e = ⟨.any, frzT (ownsOf s [y]) fun s' => s'.set l (some ⟨ob.e, ob.sz, ob.xs.set i (setP q p (s.dat (s.ev y)))⟩)⟩
  | .fieldAddr t x f => ∃ fs z o_ z_, Θ.look t = .struct fs z ∧ fs[f]? = some (o_, z_) ∧
      ((∃ ys y, s.ev x = .ptr (.agg ys) ∧ ys[f]? = some y ∧ aszs (ys.take f) = o_ ∧ e = ⟨.ptr y, none⟩) ∨
       ∃ l i p c, s.ev x = .optr l i p c ∧ e = ⟨.optr l i (p ++ [f]) (c + o_), none⟩)
  | .indexAddr t x ix => ∃ el sz b z k j, Θ.look t = .slice el sz b z ∧ s.ev ix = .v (.int k ((j : Nat) : Int)) ∧
      ((∃ xs y, s.ev x = .lst sz xs ∧ xs[j]? = some y ∧ e = ⟨.ptr y, none⟩) ∨
       ∃ l ob, s.ev x = .own l ∧ s.hp l = some ob ∧ ob.sz = sz ∧ j < ob.xs.length ∧ e = ⟨.optr l j [] 0, none⟩)
  | .makeMap t r => ∃ d kt vt z, o.dst = some d ∧ s.hp (d + 1) = none ∧ Θ.look t = .map kt vt z ∧ (∀ x ∈ r.toList, ∃ k m, s.ev x = .v (.int k m)) ∧ e = ⟨.mapv (d + 1), some fun s => (s.set (d + 1) (some ⟨t, 1, []⟩)).setM (d + 1) []⟩
  | .mapUpdate t m k v => ∃ l ent kk b kt vt z, Θ.look t = .map kt vt z ∧ s.ev m = .mapv l ∧ s.mp l = some ent ∧ s.ev k = .v (.string kk) ∧ conc (s.ev v) = some b ∧ (∀ c, v = .const c → c.oneCell' = true) ∧ e = ⟨.any, some fun s' => s'.setM l (mput ent kk (s.ev v))⟩
  | .lookup t m k ok => ∃ l ent kk kt vt z, Θ.look t = .map kt vt z ∧ s.ev m = .mapv l ∧ s.mp l = some ent ∧ s.ev k = .v (.string kk) ∧ e = ⟨bif ok then .tup [(mget ent kk).getD z, .v (.bool (mget ent kk).isSome)] else (mget ent kk).getD z, none⟩
  | .call c => match c.callee with
    | .builtin .delete => ∃ x y t t2 l ent kk kt vt z, c.args = #[x, y] ∧ c.argTypes = #[t, t2] ∧ Θ.look t = .map kt vt z ∧ s.ev x = .mapv l ∧ s.mp l = some ent ∧ s.ev y = .v (.string kk) ∧ e = ⟨.tup [], some fun s' => s'.setM l (mdel ent kk)⟩
    | .builtin .len => ∃ x t n, c.args = #[x] ∧ c.argTypes = #[t] ∧ lenA s (s.ev x) = some n ∧ lenOK Θ t (s.ev x) ∧ e = ⟨.v (.int .i64 (n : Int)), none⟩
    | .builtin .append => ∃ x y t el sz b z l ob ys, c.args = #[x, y] ∧ c.argTypes = #[t, t] ∧ Θ.look t = .slice el sz b z ∧ s.ev x = .own l ∧ s.hp l = some ob ∧ l ≠ 0 ∧ ob.e = el ∧ ob.sz = sz ∧
        (s.ev y = .lst sz ys ∨ ∃ l' ob', s.ev y = .own l' ∧ l' ≠ l ∧ s.hp l' = some ob' ∧ ob'.sz = sz ∧ ys = ob'.xs) ∧
        (ob.xs.length + ys.length) * b ≤ 140737488355328 ∧ ob.xs.length + ys.length ≤ maxLen ∧
        e = ⟨.own l, some fun s => (s.kill l).set l (some ⟨el, sz, ob.xs ++ ys⟩)⟩
    | .value (.func f) => (∃ d out, o.dst = some d ∧ AC P f (c.args.toList.map fun x => s.dat (s.ev x)) out ∧ ((ownsOf s c.args.toList).isEmpty = true ∨ out.flat) ∧ freeObs s (d + 1) 0 out.obs ∧ argsOK s c.args.toList = true ∧
        (∀ x ∈ c.args.toList, ∀ k, x = .const k → k.oneCell' = true) ∧
        e = ⟨ren (d + 1) out.val, setU (d + 1) out.obs⟩) ∨
        (∃ x r l ob xs' v, c.args.toList = x :: r ∧ s.ev x = .own l ∧ s.hp l = some ob ∧ ACM P f ob xs' (r.map fun x => s.dat (s.ev x)) v ∧ (ownsOf s r).isEmpty = true ∧ argsOK s r = true ∧
        (∀ x ∈ r, ∀ k, x = .const k → k.oneCell' = true) ∧ v.oneCell' = true ∧ e = ⟨.v v, some fun s => s.set l (some ⟨ob.e, ob.sz, xs'⟩)⟩) ∨
        ∃ d out, o.dst = some d ∧ AC P f (c.args.toList.map fun x => s.dat (s.ev x)) out ∧ freeObs s (d + 1) 0 out.obs ∧ argsOK s c.args.toList = true ∧ (∀ x ∈ c.args.toList, ∀ k, x = .const k → k.oneCell' = true) ∧
        e = ⟨ren (d + 1) out.val, frzT (ownsOf s c.args.toList) (setObs (d + 1) 0 out.obs)⟩
    | _ => False
  | _ => False

def inN (n : Nat) : Option Tmp → Bool
  | none => true
  | some t => Nat.blt t n

/-- is the operation at place k ordered against every other of the region? -/
def tied (ops : Array Oper) (k : Nat) : Bool :=
  let b := Region.before ops
  (List.range ops.size).all fun j => Nat.beq j k || (bif Nat.blt j k then (b.getD k 0).testBit j else (b.getD j 0).testBit k)

def guardA (ops : Array Oper) (s : St) (o : Oper) : Option Bool :=
  match o.guard with
  | none => some true
  | some (j, want) => match (ops[j]?).bind (·.dst) with
    | none => none
    | some t => match s.sl t with
      | .v (.bool b) => some (b == want)
      | .tup [] => some false
      | _ => none

def AOps (P : Program) (Θ : Tab) (n : Nat) (ops : Array Oper) (draw : Bool) : Nat → List Oper → St → (St → Prop) → Prop
  | _, [], s, K => K s
  | k, o :: r, s, K => inN n o.dst = true ∧
    match guardA ops s o with
    | some true => ∃ e, Pre P Θ o s e ∧ (draw = true → e.upd = none ∨ tied ops k = true) ∧ AOps P Θ n ops draw (k + 1) r (s.app o.dst e) K
    | some false => AOps P Θ n ops draw (k + 1) r (s.put o.dst (.tup [])) K
    | none => False

/-! ### weaker states -/
structure Inv where
  slots : List (Nat × AV)
  rows : List (Nat × OB)
def lookS : List (Nat × AV) → Nat → AV
  | [], _ => .any
  | (t, x) :: r, j => bif Nat.beq j t then x else lookS r j
def lookR : List (Nat × OB) → Nat → Option OB
  | [], _ => none
  | (t, x) :: r, j => bif Nat.beq j t then some x else lookR r j
def Inv.st (i : Inv) : St := ⟨lookS i.slots, lookR i.rows, fun _ => none⟩
def AV.namedIn (rows : List (Nat × OB)) : AV → Bool
  | .own l => (lookR rows l).isSome
  | .optr l _ _ _ => (lookR rows l).isSome
  | .tup _ => false
  | .mapv l => (lookR rows l).isSome
  | _ => true
/-- a slot's datum may be read as another: the row that is owned no longer need be -/
def slotLe (s : St) (rows : List (Nat × OB)) (x y : AV) : Prop :=
  x = y ∧ y.namedIn rows = true ∨ ∃ l ob, x = .own l ∧ lookR rows l = none ∧ s.hp l = some ob ∧ y = .lst ob.sz ob.xs
def slotsLe (s : St) (rows : List (Nat × OB)) : List (Nat × AV) → Prop
  | [] => True
  | (t, y) :: r => slotLe s rows (s.sl t) y ∧ slotsLe s rows r
def rowsLe (s : St) : List (Nat × OB) → Prop
  | [] => True
  | (l, ob) :: r => s.hp l = some ob ∧ rowsLe s r
def St.le (s : St) (i : Inv) : Prop := rowsLe s i.rows ∧ slotsLe s i.rows i.slots

structure InvM where
  slots : List (Nat × AV)
  rows : List (Nat × OB)
  maps : List (Nat × List (ByteArray × AV))
def lookM : List (Nat × List (ByteArray × AV)) → Nat → Option (List (ByteArray × AV))
  | [], _ => none
  | (t, x) :: r, j => bif Nat.beq j t then some x else lookM r j
def InvM.st (i : InvM) : St := ⟨lookS i.slots, lookR i.rows, lookM i.maps⟩
def mapsLe (s : St) (rows : List (Nat × OB)) : List (Nat × List (ByteArray × AV)) → Prop
  | [] => True
  | (l, es) :: r => (s.mp l = some es ∧ (lookR rows l).isSome = true) ∧ mapsLe s rows r
def St.leM (s : St) (i : InvM) : Prop := s.le ⟨i.slots, i.rows⟩ ∧ mapsLe s i.rows i.maps
def Inv.m (i : Inv) : InvM := ⟨i.slots, i.rows, []⟩
inductive AEx where
  | normal | exit (id : Nat) | ret
def AEx.then (next : St → Prop) (Q : AEx → St → Prop) : AEx → St → Prop
  | .normal, s => next s
  | e, s => Q e s
def AEx.inBlock (id : Nat) (Q : AEx → St → Prop) : AEx → St → Prop
  | .exit j, s => bif Nat.beq j id then Q .normal s else Q (.exit j) s
  | e, s => Q e s

def ACode (P : Program) (Θ : Tab) (n : Nat) : Code → (AEx → St → Prop) → St → Prop
  | .skip, Q, s => Q .normal s
  | .label _, Q, s => Q .normal s
  | .region _ ops draw, Q, s => (draw = true → Region.lexB .any ops = true) ∧ AOps P Θ n ops draw 0 ops.toList s (Q .normal)
  | .seq a b, Q, s => ACode P Θ n a (AEx.then (ACode P Θ n b Q) Q) s ∨ ∃ (ι : Type) (I : ι → InvM), ACode P Θ n a (AEx.then (fun s' => ∃ j, s'.leM (I j)) Q) s ∧ ∀ j, ACode P Θ n b Q (I j).st
  | .cond c x y, Q, s => ∃ b, s.ev c = .v (.bool b) ∧ (match b with | true => ACode P Θ n x Q s | false => ACode P Θ n y Q s)
  | .block id c, Q, s => ACode P Θ n c (AEx.inBlock id Q) s
  | .loop c, Q, s => ∃ (ι : Type) (I : ι → InvM) (μ : ι → Nat), (∃ i, s.leM (I i)) ∧ ∀ i, ACode P Θ n c (AEx.then (fun s' => ∃ j, s'.leM (I j) ∧ μ j < μ i) Q) (I i).st
  | .exit id, Q, s => Q (.exit id) s
  | .ret, Q, s => Q .ret s
  | _, _, _ => False
end Go.Proofs.Ytmafbodblpgcjaa.AM
/- The machine over data: its words carried over a step (a value put, a new row, a row given up). -/
namespace Go.Proofs.Ytmafbodblpgcjaa.AM
open Go Go.RowKit

theorem nbne {j d : Nat} (h : j ≠ d) : Nat.beq j d = false := by
  cases e : Nat.beq j d with
  | false => rfl
  | true => exact absurd (Nat.eq_of_beq_eq_true e) h

section
variable {S S' : Nat → Prop} {w w' : World} {hp hp' : Nat → Option OB} {B B' : Nat → Nat} {V V' : Nat → Value}
mutual
theorem RV.carry (hS : ∀ b, S b → S' b) (hw : ∀ b, S b → w'.heap[b]? = w.heap[b]?) : ∀ (x : AV) (u : Value), (∀ l ob, x.names l = true → hp l = some ob → ∃ ob', hp' l = some ob' ∧ ob'.sz = ob.sz ∧ V' l = V l ∧ B' l = B l) →
    RV S w hp B V x u → RV S' w' hp' B' V' x u
  | .any, u, _, h => by unfold RV at h ⊢; trivial
  | .v x, u, _, h => by unfold RV at h ⊢; exact h
  | .agg xs, u, _, h => by
    unfold RV at h ⊢
    obtain ⟨cs, e, h⟩ := h
    exact ⟨cs, e, RL.mono hS hw xs cs h⟩
  | .lst sz xs, u, _, h => by unfold RV at h ⊢; exact RA.mono hS hw _ _ h
  | .ptr x, u, _, h => by
    unfold RV at h ⊢
    obtain ⟨b, off, us, e, hb, hr, hc⟩ := h
    exact ⟨b, off, us, e, hS b hb, RA.mono hS hw x us hr, fun j y hy => (cell_same (hw b hb) _).trans (hc j y hy)⟩
  | .own l, u, hn, h => by
    unfold RV at h ⊢
    obtain ⟨⟨ob, ho⟩, e⟩ := h
    obtain ⟨ob', h1, _, h2, _⟩ := hn l ob (by simp [AV.names]) ho
    exact ⟨⟨ob', h1⟩, e.trans h2.symm⟩
  | .optr l i p c, u, hn, h => by
    unfold RV at h ⊢
    obtain ⟨ob, ho, e⟩ := h
    obtain ⟨ob', h1, h2, _, h3⟩ := hn l ob (by simp [AV.names]) ho
    exact ⟨ob', h1, by rw [e, h2, h3]⟩
  | .tup xs, u, hn, h => by
    unfold RV at h ⊢
    obtain ⟨us, e, h⟩ := h
    exact ⟨us, e, RVs.carry hS hw xs us (fun l ob hl => hn l ob (by simpa [AV.names] using hl)) h⟩
  | .mapv l, u, hn, h => by
    unfold RV at h ⊢
    obtain ⟨⟨ob, ho⟩, e⟩ := h
    obtain ⟨ob', h1, _, _, h3⟩ := hn l ob (by simp [AV.names]) ho
    exact ⟨⟨ob', h1⟩, by rw [e, h3]⟩
theorem RVs.carry (hS : ∀ b, S b → S' b) (hw : ∀ b, S b → w'.heap[b]? = w.heap[b]?) : ∀ (xs : List AV) (us : List Value), (∀ l ob, namesL l xs = true → hp l = some ob → ∃ ob', hp' l = some ob' ∧ ob'.sz = ob.sz ∧ V' l = V l ∧ B' l = B l) →
    RVs S w hp B V xs us → RVs S' w' hp' B' V' xs us
  | [], us, _, h => by unfold RVs at h ⊢; exact h
  | x :: xs, us, hn, h => by
    unfold RVs at h ⊢
    obtain ⟨u, us', e, h1, h2⟩ := h
    exact ⟨u, us', e, RV.carry hS hw x u (fun l ob hl => hn l ob (by simp [namesL, hl])) h1, RVs.carry hS hw xs us' (fun l ob hl => hn l ob (by simp [namesL, hl])) h2⟩
end

theorem RO.carry {base : Nat} {ob : OB} {b : Nat} {v : Value} (hS : ∀ b, S b → S' b) (hw : ∀ b, S b → w'.heap[b]? = w.heap[b]?) (hg : ∀ g, v.ownBlock = some g → w'.heap[g]? = w.heap[g]? ∧ (¬ S g → ¬ S' g)) (h : RO S w base ob b v) : RO S' w' base ob b v := by
  obtain ⟨cs, h1, h2, h2', h3, h4⟩ := h
  refine ⟨cs, RL.mono hS hw _ _ h1, h2, h2', ⟨h3.1, ?_⟩, fun g e => ⟨(h4 g e).1, (hg g e).2 (h4 g e).2⟩⟩
  rcases h3.2 with h | ⟨g, cap, cur, e, hb, hh, r⟩
  · exact .inl h
  · subst e
    exact .inr ⟨g, cap, cur, rfl, hb, (hg g rfl).1.trans hh, r⟩
theorem RO.lt {base : Nat} {ob : OB} {b : Nat} {v : Value} (h : RO S w base ob b v) : ∀ g, v.ownBlock = some g → base ≤ g ∧ g < w.heap.size := by
  obtain ⟨cs, _, _, _, h3, _⟩ := h
  exact h3.lt

/-- what a slot holds as one value, and what its cells hold -/
theorem RV.ofRA {x : AV} {us : List Value} (h : RA S w x us) : (isAggA x = true → RV S w hp B V x (.agg us.toArray)) ∧ (isAggA x = false → ∃ u, us = [u] ∧ RV S w hp B V x u) := by
  cases x with
  | v x => unfold RA at h; exact ⟨fun e => by simp [isAggA] at e, fun _ => ⟨x, h.1, by unfold RV; exact ⟨rfl, h.2⟩⟩⟩
  | agg xs => unfold RA at h; exact ⟨fun _ => by unfold RV; exact ⟨us, rfl, h⟩, fun e => by simp [isAggA] at e⟩
  | lst sz xs =>
    have h0 := h
    unfold RA at h
    obtain ⟨A, c, e, _⟩ := h
    exact ⟨fun e => by simp [isAggA] at e, fun _ => ⟨_, e, by unfold RV; rw [← e]; exact h0⟩⟩
  | _ => unfold RA at h; exact h.elim
/-- what is stored: the cells of a slot's value read as its datum -/
theorem RA.ofRV {x : AV} {u : Value} (h : RV S w hp B V x u) (hd : (match x with | .v _ | .agg _ | .lst _ _ => True | _ => False)) : RA S w x u.cells.toList := by
  cases x with
  | v x => unfold RV at h; obtain ⟨rfl, h1⟩ := h; unfold RA; refine ⟨?_, h1⟩; cases u <;> first | rfl | simp [Value.oneCell'] at h1
  | agg xs => unfold RV at h; obtain ⟨cs, rfl, h1⟩ := h; unfold RA; simpa [Value.cells] using h1
  | lst sz xs =>
    unfold RV at h
    have h0 := h
    unfold RA at h
    obtain ⟨A, c, e, _⟩ := h
    simp only [List.cons.injEq, and_true] at e
    subst e
    simpa [Value.cells] using h0
  | _ => exact hd.elim

/-- an owned row read as a list -/
theorem RO.list {base : Nat} {ob : OB} {b : Nat} {v : Value} (h : RO S w base ob b v) : RA (fun g => S g ∨ v.ownBlock = some g) w (.lst ob.sz ob.xs) [v] := by
  obtain ⟨cs, h1, h2, h2', h3, _⟩ := h
  unfold RA
  have hl := RL.size _ _ h1
  rcases h3.2 with ⟨rfl, hn⟩ | ⟨g, cap, cur, rfl, hb, hg, hc, hm, hs, ht⟩
  · exact ⟨none, 0, by rw [hn], by omega, by unfold maxLen; omega, h2, h2', .inl (List.eq_nil_of_length_eq_zero hn)⟩
  · refine ⟨_, cap, rfl, hc, hm, h2, h2', .inr ⟨g, 0, cs, rfl, .inr rfl, RL.mono (fun _ h => .inl h) (fun _ _ => rfl) _ _ h1, fun j u hu => ?_⟩⟩
    rw [cell_of_row w g (0 + j) cur ob.e (0, 0) hg]
    rw [← ht, List.getElem?_take] at hu
    split at hu
    · simpa using hu
    · cases hu
end

section
variable {W : World} {M : Option Value} {S0 : Nat → Prop} {s : St} {a : Act} {w : World} {n : Nat}

theorem putTmps {tmps : Array Value} {d t : Nat} {u : Value} (hd : d < tmps.size) : (tmps.setIfInBounds d u).getD t undef = if t = d then u else tmps.getD t undef := by
  by_cases h : t = d
  · subst h; simp [hd]
  · simp [h, Array.getElem?_setIfInBounds_ne (Ne.symm h)]

/-- a datum put into a slot -/
theorem SimW.put {tmps : Array Value} {S B V} (h : SimW W M S0 s tmps w S B V) {x : AV} {u : Value} (hx : RV S w s.hp B V x u) (d : Tmp) (hd : d < tmps.size) : SimW W M S0 (s.put (some d) x) (tmps.setIfInBounds d u) w S B V := by
  refine ⟨h.below, h.s0, h.slt, fun t => ?_, h.hp, h.dist, h.mine, h.pin, h.mps⟩
  rw [putTmps hd]
  show RV S w s.hp B V (bif Nat.beq t d then x else s.sl t) _
  by_cases ht : t = d
  · subst ht; simp [hx]
  · rw [if_neg ht, nbne ht]; exact h.sl t
theorem Sim.put {S B V} (hn : a.tmps.size = n) (hdf : a.defers = []) (h : SimW W M S0 s a.tmps w S B V) {x : AV} {u : Value} (d : Option Tmp) (hx : RV S w s.hp B V x u) (hd : inN n d = true) : Sim W M S0 n (s.put d x) (a.put d u) w := by
  cases d with
  | none => exact ⟨hn, hdf, S, B, V, h⟩
  | some d => exact ⟨by simpa [Act.put] using hn, hdf, S, B, V, h.put hx d (by rw [hn]; simpa [inN] using hd)⟩

/-- the world goes on below what is the call's own -/
theorem SimW.world {tmps : Array Value} {w1 : World} {S B V} (h : SimW W M S0 s tmps w S B V) (hb : Below w.heap.size w w1) : SimW W M S0 s tmps w1 S B V := by
  have hw : ∀ b, b < w.heap.size → w1.heap[b]? = w.heap[b]? := fun b hb' => hb.block b hb'
  refine ⟨grown_trans h.below (grown_of_below hb none) (fun g e => by cases e), h.s0, fun b hs => ⟨Nat.lt_of_lt_of_le (h.slt b hs).1 hb.size, (h.slt b hs).2⟩, fun t => ?_, fun l ob ho => ?_, h.dist, h.mine, h.pin, h.mps.carry (fun _ _ e => e) (fun _ _ _ h => h) (fun _ _ _ => rfl) (fun l es _ a3 a4 a5 _ => ⟨hw _ a3, Nat.lt_of_lt_of_le a3 hb.size, a4, a5⟩)⟩
  · exact RV.carry (fun _ h => h) (fun b hs => hw b (h.slt b hs).1) _ _ (fun l ob _ ho => ⟨ob, ho, rfl, rfl, rfl⟩) (h.sl t)
  · exact (h.hp l ob ho).carry (fun _ h => h) (fun b hs => hw b (h.slt b hs).1) (fun g hg => ⟨hw g ((h.hp l ob ho).lt g hg).2, id⟩)

def upd {α : Type} (f : Nat → α) (d : Nat) (x : α) : Nat → α := fun j => bif Nat.beq j d then x else f j
theorem upd_same {α : Type} {f : Nat → α} {d : Nat} {x : α} : upd f d x d = x := by simp [upd]
theorem upd_ne {α : Type} {f : Nat → α} {d j : Nat} {x : α} (h : j ≠ d) : upd f d x j = f j := by simp [upd, nbne h]

theorem SimW.mps_upd {tmps : Array Value} {S B V} (h : SimW W M S0 s tmps w S B V) {l : Nat} {o : Option OB} {w1 : World} {S1 : Nat → Prop} {B1 : Nat → Nat} {V1 : Nat → Value} (hB : ∀ j, j ≠ l → B1 j = B j) (hV : ∀ j, j ≠ l → V1 j = V j) (hsz : w.heap.size ≤ w1.heap.size)
    (hw : ∀ g, g < w.heap.size → (∀ l' ob, s.hp l' = some ob → (V l').ownBlock ≠ some g) → w1.heap[g]? = w.heap[g]?) (hS : ∀ g, g < w.heap.size → ¬ S g → W.heap.size ≤ g → ¬ S1 g) (hv : ∀ g, g < w.heap.size → (∀ l' ob, s.hp l' = some ob → (V l').ownBlock ≠ some g) → (V1 l).ownBlock ≠ some g) :
    Mps W w1 S1 (s.set l o).hp (s.set l o).mp B1 V1 := by
  have hne : ∀ j es, (s.set l o).mp j = some es → j ≠ l ∧ s.mp j = some es := fun j es e => by
    by_cases hl : j = l
    · subst hl; simp [St.set] at e
    · exact ⟨hl, by simpa [St.set, nbne hl] using e⟩
  refine h.mps.carry (fun j es e => (hne j es e).2) (fun j es e hx => ?_) (fun j es e => hB j (hne j es e).1) (fun j es e a3 a4 a5 a2 => ⟨hw _ a3 a5, Nat.lt_of_lt_of_le a3 hsz, hS _ a3 a4 a2, fun l' ob ho => ?_⟩)
  · obtain ⟨ob, hx⟩ := hx
    exact ⟨ob, by simpa [St.set, nbne (hne j es e).1] using hx⟩
  · by_cases hl : l' = l
    · subst hl; exact hv _ a3 a5
    · rw [hV l' hl]; exact a5 l' ob (by simpa [St.set, nbne hl] using ho)
theorem SimW.mapLt {tmps : Array Value} {S B V} (h : SimW W M S0 s tmps w S B V) {l : Nat} {es : List (ByteArray × AV)} (e : s.mp l = some es) : B l < w.heap.size ∧ ¬ S (B l) := ⟨(h.mps.1 l es e).2.2.1, (h.mps.1 l es e).2.2.2.1⟩
/-- the maps, beside a new row -/
theorem SimW.mps_new {tmps : Array Value} {S B V} (h : SimW W M S0 s tmps w S B V) {d : Nat} {o : Option OB} {g : Nat} {v : Value} (hf : ∀ l es, s.mp l = some es → v.ownBlock ≠ some (B l)) :
    Mps W w S (s.set d o).hp (s.set d o).mp (upd B d g) (upd V d v) := by
  have hne : ∀ l es, (s.set d o).mp l = some es → l ≠ d ∧ s.mp l = some es := fun l es e => by
    by_cases hl : l = d
    · subst hl; simp [St.set] at e
    · exact ⟨hl, by simpa [St.set, nbne hl] using e⟩
  refine h.mps.carry (fun l es e => (hne l es e).2) (fun l es e hx => ?_) (fun l es e => upd_ne (hne l es e).1) (fun l es e a3 a4 a5 _ => ⟨rfl, a3, a4, fun l' ob ho => ?_⟩)
  · obtain ⟨ob, hx⟩ := hx
    exact ⟨ob, by simpa [St.set, nbne (hne l es e).1] using hx⟩
  · by_cases hl : l' = d
    · subst hl; rw [upd_same]; exact hf l es (hne l es e).2
    · rw [upd_ne hl]; exact a5 l' ob (by simpa [St.set, nbne hl] using ho)
theorem SimW.mps_relab {tmps : Array Value} {S B V} (h : SimW W M S0 s tmps w S B V) {l L : Nat} {ob : OB} (hl : s.hp l = some ob) : Mps W w S (s.relab l L ob).hp (s.relab l L ob).mp (upd B L (B l)) (upd V L (V l)) := by
  have hne : ∀ j es, (s.relab l L ob).mp j = some es → j ≠ L ∧ j ≠ l ∧ s.mp j = some es := fun j es e => by
    by_cases e1 : j = L
    · subst e1; simp [St.relab] at e
    · by_cases e2 : j = l
      · subst e2; simp [St.relab] at e
      · exact ⟨e1, e2, by simpa [St.relab, nbne e1, nbne e2] using e⟩
  refine h.mps.carry (fun j es e => (hne j es e).2.2) (fun j es e hx => ?_) (fun j es e => upd_ne (hne j es e).1) (fun j es e a3 a4 a5 _ => ⟨rfl, a3, a4, fun l' o1 ho => ?_⟩)
  · obtain ⟨o, hx⟩ := hx
    exact ⟨o, by simpa [St.relab, nbne (hne j es e).1, nbne (hne j es e).2.1] using hx⟩
  · by_cases e1 : l' = L
    · subst e1; rw [upd_same]; exact a5 l ob hl
    · rw [upd_ne e1]
      by_cases e2 : l' = l
      · subst e2; simp [St.relab, nbne e1] at ho
      · exact a5 l' o1 (by simpa [St.relab, nbne e1, nbne e2] using ho)
/-- a new row comes to a label that is free -/
theorem SimW.row {tmps : Array Value} {S B V} (h : SimW W M S0 s tmps w S B V) {d : Nat} (hd0 : d ≠ 0) (hf : s.hp d = none) {ob : OB} {g : Nat} {v : Value} (hr : RO S w 0 ob g v) (hmine : ∀ g, v.ownBlock = some g → W.heap.size ≤ g ∨ mb M = some g) (hfar : ∀ l ob' g', s.hp l = some ob' → (V l).ownBlock = some g' → v.ownBlock ≠ some g') (hfarM : ∀ l es, s.mp l = some es → v.ownBlock ≠ some (B l)) :
    SimW W M S0 (s.set d (some ob)) tmps w S (upd B d g) (upd V d v) := by
  refine ⟨h.below, h.s0, h.slt, fun t => ?_, fun l ob' ho => ?_, fun l l' o1 o2 g' h1 h2 e1 e2 => ?_, fun l ob' g' ho e1 => ?_, fun u hu => (upd_ne (Ne.symm hd0)).trans (h.pin u hu), h.mps_new hfarM⟩
  · refine RV.carry (fun _ h => h) (fun _ _ => rfl) _ _ (fun l ob' _ ho => ?_) (h.sl t)
    have hne : l ≠ d := fun e => by rw [e, hf] at ho; cases ho
    exact ⟨ob', by simp [St.set, nbne hne, ho], rfl, upd_ne hne, upd_ne hne⟩
  · by_cases hne : l = d
    · subst hne
      have : ob = ob' := by simpa [St.set] using ho
      subst this
      rw [upd_same, upd_same]; exact hr
    · rw [upd_ne hne, upd_ne hne]
      exact h.hp l ob' (by simpa [St.set, nbne hne] using ho)
  · by_cases e : l = d
    · by_cases e' : l' = d
      · rw [e, e']
      · subst e
        rw [upd_same] at e1; rw [upd_ne e'] at e2
        exact absurd e1 (hfar l' o2 g' (by simpa [St.set, nbne e'] using h2) e2)
    · by_cases e' : l' = d
      · subst e'
        rw [upd_same] at e2; rw [upd_ne e] at e1
        exact absurd e2 (hfar l o1 g' (by simpa [St.set, nbne e] using h1) e1)
      · rw [upd_ne e] at e1; rw [upd_ne e'] at e2
        exact h.dist l l' o1 o2 g' (by simpa [St.set, nbne e] using h1) (by simpa [St.set, nbne e'] using h2) e1 e2
  · by_cases e : l = d
    · subst e; rw [upd_same] at e1; exact hmine g' e1
    · rw [upd_ne e] at e1; exact h.mine l ob' g' (by simpa [St.set, nbne e] using ho) e1

/-- a row is given up: it may be read from now on, by whoever names it -/
theorem SimW.frz {tmps : Array Value} {S B V} (h : SimW W M S0 s tmps w S B V) (l : Nat) : ∃ S', (∀ b, S b → S' b) ∧ SimW W M S0 (s.frz l) tmps w S' B V ∧ ∀ ob, s.hp l = some ob → RA S' w (.lst ob.sz ob.xs) [V l] := by
  unfold St.frz
  cases ho : s.hp l with
  | none => exact ⟨S, fun _ h => h, h, fun ob e => by cases e⟩
  | some ob =>
    have hro := h.hp l ob ho
    have hsub : ∀ b, S b → S b ∨ (V l).ownBlock = some b := fun b hb => .inl hb
    refine ⟨fun g => S g ∨ (V l).ownBlock = some g, hsub, ⟨h.below, fun b hb => .inl (h.s0 b hb), fun b hb => ?_, fun t => ?_, fun l' ob' ho' => ?_, fun l1 l2 o1 o2 g h1 h2 => ?_, fun l1 o1 g h1 => ?_, h.pin, ?_⟩, fun ob' e => by cases e; exact hro.list⟩
    · rcases hb with hb | hb
      · exact h.slt b hb
      · exact ⟨(hro.lt b hb).2, .inr (h.mine l ob b ho hb)⟩
    · have ht := h.sl t
      have hother : ∀ x u, x.names l = false → RV S w s.hp B V x u → RV (fun g => S g ∨ (V l).ownBlock = some g) w (fun j => bif Nat.beq j l then none else s.hp j) B V x u := fun x u hx hr => by
        refine RV.carry hsub (fun _ _ => rfl) x u (fun l' ob' hn ho' => ⟨ob', ?_, rfl, rfl, rfl⟩) hr
        have hne : l' ≠ l := fun e => by rw [e, hx] at hn; cases hn
        simp [nbne hne, ho']
      show RV _ w (fun j => bif Nat.beq j l then none else s.hp j) B V (match s.sl t with | .own l' => bif Nat.beq l' l then .lst ob.sz ob.xs else .own l' | x => bif x.names l then .any else x) _
      cases hx : s.sl t with
      | own l' =>
        rw [hx] at ht
        by_cases e : l' = l
        · subst e
          simp only [Nat.beq_refl, cond_true]
          unfold RV at ht ⊢
          rw [ht.2]; exact hro.list
        · have hb : Nat.beq l' l = false := nbne e
          simp only [hb, cond_false]
          exact hother _ _ (by simp [AV.names, hb]) ht
      | _ =>
        rw [hx] at ht
        simp only
        first
          | (cases hn : AV.names l _ with
             | true => simp only [cond_true]; unfold RV; trivial
             | false => simp only [cond_false]; exact hother _ _ hn ht)
    · have hne : l' ≠ l := fun e => by rw [e] at ho'; simp at ho'
      have ho2 : s.hp l' = some ob' := by simpa [nbne hne] using ho'
      refine (h.hp l' ob' ho2).carry hsub (fun _ _ => rfl) (fun g hg => ⟨rfl, fun hs hor => ?_⟩)
      rcases hor with hor | hor
      · exact hs hor
      · exact hne (h.dist l' l ob' ob g ho2 ho hg hor)
    · have n1 : l1 ≠ l := fun e => by rw [e] at h1; simp at h1
      have n2 : l2 ≠ l := fun e => by rw [e] at h2; simp at h2
      exact h.dist l1 l2 o1 o2 g (by simpa [nbne n1] using h1) (by simpa [nbne n2] using h2)
    · have n1 : l1 ≠ l := fun e => by rw [e] at h1; simp at h1
      exact h.mine l1 o1 g (by simpa [nbne n1] using h1)
    · show Mps W w _ (fun j => bif Nat.beq j l then none else s.hp j) (fun j => bif Nat.beq j l then none else s.mp j) B V
      have hne : ∀ j es, (bif Nat.beq j l then none else s.mp j) = some es → j ≠ l ∧ s.mp j = some es := fun j es e => by
        by_cases e1 : j = l
        · subst e1; simp at e
        · exact ⟨e1, by simpa [nbne e1] using e⟩
      refine h.mps.carry (fun j es e => (hne j es e).2) (fun j es e hx => ?_) (fun j es e => rfl) (fun j es e a3 a4 a5 _ => ⟨rfl, a3, fun hc => ?_, fun l' o1 ho1 => ?_⟩)
      · obtain ⟨o, hx⟩ := hx
        exact ⟨o, by simp [nbne (hne j es e).1, hx]⟩
      · rcases hc with hc | hc
        · exact a4 hc
        · exact a5 l ob ho hc
      · by_cases e1 : l' = l
        · subst e1; simp at ho1
        · exact a5 l' o1 (by simpa [nbne e1] using ho1)
/-- a new row comes to a label, whatever lay there is forgotten -/
theorem SimW.rowk {tmps : Array Value} {S B V} (h : SimW W M S0 s tmps w S B V) {d : Nat} (hd0 : d ≠ 0) {ob : OB} {g : Nat} {v : Value} (hr : RO S w 0 ob g v) (hmine : ∀ g, v.ownBlock = some g → W.heap.size ≤ g ∨ mb M = some g) (hfar : ∀ l ob' g', l ≠ d → s.hp l = some ob' → (V l).ownBlock = some g' → v.ownBlock ≠ some g') (hfarM : ∀ l es, s.mp l = some es → v.ownBlock ≠ some (B l)) :
    SimW W M S0 ((s.kill d).set d (some ob)) tmps w S (upd B d g) (upd V d v) := by
  refine ⟨h.below, h.s0, h.slt, fun t => ?_, fun l ob' ho => ?_, fun l l' o1 o2 g' h1 h2 e1 e2 => ?_, fun l ob' g' ho e1 => ?_, fun u hu => (upd_ne (Ne.symm hd0)).trans (h.pin u hu), h.mps_new hfarM⟩
  · show RV S w (fun j => bif Nat.beq j d then some ob else s.hp j) _ _ (bif (s.sl t).names d then .any else s.sl t) _
    cases hn : (s.sl t).names d with
    | true => simp only [cond_true]; unfold RV; trivial
    | false =>
      simp only [cond_false]
      refine RV.carry (fun _ h => h) (fun _ _ => rfl) _ _ (fun l ob' hl ho => ?_) (h.sl t)
      have hne : l ≠ d := fun e => by rw [e, hn] at hl; cases hl
      exact ⟨ob', by simp [nbne hne, ho], rfl, upd_ne hne, upd_ne hne⟩
  · by_cases hne : l = d
    · subst hne
      have : ob = ob' := by simpa [St.set] using ho
      subst this
      rw [upd_same, upd_same]; exact hr
    · rw [upd_ne hne, upd_ne hne]
      exact h.hp l ob' (by simpa [St.set, St.kill, nbne hne] using ho)
  · by_cases e : l = d
    · by_cases e' : l' = d
      · rw [e, e']
      · subst e
        rw [upd_same] at e1; rw [upd_ne e'] at e2
        exact absurd e1 (hfar l' o2 g' e' (by simpa [St.set, St.kill, nbne e'] using h2) e2)
    · by_cases e' : l' = d
      · subst e'
        rw [upd_same] at e2; rw [upd_ne e] at e1
        exact absurd e2 (hfar l o1 g' e (by simpa [St.set, St.kill, nbne e] using h1) e1)
      · rw [upd_ne e] at e1; rw [upd_ne e'] at e2
        exact h.dist l l' o1 o2 g' (by simpa [St.set, St.kill, nbne e] using h1) (by simpa [St.set, St.kill, nbne e'] using h2) e1 e2
  · by_cases e : l = d
    · subst e; rw [upd_same] at e1; exact hmine g' e1
    · rw [upd_ne e] at e1; exact h.mine l ob' g' (by simpa [St.set, St.kill, nbne e] using ho) e1
/-- nil is an empty row of anything -/
theorem SimW.nilrow {tmps : Array Value} {S B V} (h : SimW W M S0 s tmps w S B V) {d el sz : Nat} (hd0 : d ≠ 0) (h0 : 0 < sz) :
    SimW W M S0 ((s.kill d).set d (some ⟨el, sz, []⟩)) tmps w S (upd B d 0) (upd V d (.slice none 0 0)) :=
  h.rowk hd0 ⟨[], by unfold RL; rfl, fun x hx => by simp at hx, h0, ⟨by simp, .inl ⟨rfl, rfl⟩⟩, fun g hg => by simp [Value.ownBlock] at hg⟩ (fun g hg => by simp [Value.ownBlock] at hg) (fun l ob' g' _ _ _ e => by simp [Value.ownBlock] at e) (fun l es _ e => by simp [Value.ownBlock] at e)
/-- a row under another label -/
theorem SimW.relab {tmps : Array Value} {S B V} (h : SimW W M S0 s tmps w S B V) {l L : Nat} {ob : OB} (hL : L ≠ 0) (hl : s.hp l = some ob) :
    SimW W M S0 (s.relab l L ob) tmps w S (upd B L (B l)) (upd V L (V l)) := by
  have hat : ∀ j o1, (s.relab l L ob).hp j = some o1 → (j = L ∧ o1 = ob) ∨ (j ≠ L ∧ j ≠ l ∧ s.hp j = some o1) := fun j o1 e => by
    by_cases e1 : j = L
    · subst e1; left; exact ⟨rfl, by simpa [St.relab] using e.symm⟩
    · by_cases e2 : j = l
      · subst e2; simp [St.relab, nbne e1] at e
      · right; exact ⟨e1, e2, by simpa [St.relab, nbne e1, nbne e2] using e⟩
  refine ⟨h.below, h.s0, h.slt, fun t => ?_, fun j o1 ho => ?_, fun j j' o1 o2 g h1 h2 e1 e2 => ?_, fun j o1 g ho e1 => ?_, fun u hu => (upd_ne (Ne.symm hL)).trans (h.pin u hu), h.mps_relab hl⟩
  · show RV S w (s.relab l L ob).hp _ _ (bif (s.sl t).names l || (s.sl t).names L then .any else s.sl t) _
    cases hn : (s.sl t).names l || (s.sl t).names L with
    | true => simp only [cond_true]; unfold RV; trivial
    | false =>
      simp only [cond_false]
      simp only [Bool.or_eq_false_iff] at hn
      refine RV.carry (fun _ h => h) (fun _ _ => rfl) _ _ (fun j o1 hj ho => ?_) (h.sl t)
      have e1 : j ≠ l := fun e => by rw [e, hn.1] at hj; cases hj
      have e2 : j ≠ L := fun e => by rw [e, hn.2] at hj; cases hj
      exact ⟨o1, by simp [St.relab, nbne e1, nbne e2, ho], rfl, upd_ne e2, upd_ne e2⟩
  · rcases hat j o1 ho with ⟨rfl, rfl⟩ | ⟨e1, e2, ho'⟩
    · rw [upd_same, upd_same]; exact h.hp l _ hl
    · rw [upd_ne e1, upd_ne e1]; exact h.hp j o1 ho'
  · rcases hat j o1 h1 with ⟨rfl, rfl⟩ | ⟨a1, a2, ho1⟩
    · rcases hat j' o2 h2 with ⟨rfl, rfl⟩ | ⟨b1, b2, ho2⟩
      · rfl
      · rw [upd_same] at e1; rw [upd_ne b1] at e2
        exact absurd (h.dist l j' _ o2 g hl ho2 e1 e2).symm b2
    · rcases hat j' o2 h2 with ⟨rfl, rfl⟩ | ⟨b1, b2, ho2⟩
      · rw [upd_same] at e2; rw [upd_ne a1] at e1
        exact absurd (h.dist j l o1 _ g ho1 hl e1 e2) a2
      · rw [upd_ne a1] at e1; rw [upd_ne b1] at e2
        exact h.dist j j' o1 o2 g ho1 ho2 e1 e2
  · rcases hat j o1 ho with ⟨rfl, rfl⟩ | ⟨a1, a2, ho1⟩
    · rw [upd_same] at e1; exact h.mine l _ g hl e1
    · rw [upd_ne a1] at e1; exact h.mine j o1 g ho1 e1
end
end Go.Proofs.Ytmafbodblpgcjaa.AM
