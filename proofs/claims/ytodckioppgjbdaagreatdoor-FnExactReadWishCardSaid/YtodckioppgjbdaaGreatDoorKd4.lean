/- Texts of the machine over data, folded. -/
import Derived.Test.YtodckioppgjbdaaGreatDoorKd3
import Derived.Orders
import Derived.Tactics
set_option linter.unusedVariables false
set_option linter.unusedSimpArgs false
namespace Go.Proofs.YtodckioppgjbdaaGreatDoor.AM
open Go Go.RowKit
inductive Gh (K : St → Prop) : St → Prop
 | done {s : St} : K s → Gh K s
 | opn {s : St} (l i : Nat) {ob : OB} {e' : ET} : s.hp l = some ob → y8 ob.e ob.xs i = some e' → Gh K (s.set l (some ⟨e', ob.sz, ob.xs⟩)) → Gh K s
 | shut {s : St} (l : Nat) {t : Option Nat} {i sz : Nat} {y z y' : AV} {xs : List AV} : s.hp l = some ⟨.o t i y, sz, xs⟩ → yc z y = some y' → Gh K (s.set l (some ⟨.shutd t, sz, xs.set i y'⟩)) → Gh K s
 | fold {s : St} (l l' : Nat) (p : List Nat) {t : Option Nat} {i sz c : Nat} {y : AV} {xs : List AV} {ob' : OB} : s.hp l = some ⟨.o t i y, sz, xs⟩ → xU y p 0 = some (.own l', c) → Nat.beq l' l = false → okL l' = true → s.hp l' = some ob' → ob'.e.deep = true →
  Gh K ((s.drop l').set l (some ⟨.o t i (xE l' (setM y p (.lst ob'.sz ob'.xs))), sz, xs⟩)) → Gh K s
 | unfold {s : St} (l i L : Nat) (p : List Nat) {ob : OB} {t' : Option Nat} {y : AV} {sz' c : Nat} {xs' : List AV} : s.hp l = some ob → y8 ob.e ob.xs i = some (.o t' i y) → xU y p 0 = some (.lst sz' xs', c) → okL L = true → s.hp L = none →
  Gh K ((s.set l (some ⟨.o t' i (setM y p (.own L)), ob.sz, ob.xs⟩)).set L (some ⟨.u, sz', xs'⟩)) → Gh K s
 | nilx {s : St} (l i L : Nat) (p : List Nat) (ek : ET) (sz' : Nat) {ob : OB} {t' : Option Nat} {y : AV} {c : Nat} : s.hp l = some ob → y8 ob.e ob.xs i = some (.o t' i y) → xU y p 0 = some (.v (.slice none 0 0), c) → okL L = true → s.hp L = none → ek.row = true → 0 < sz' →
  Gh K ((s.set L (some ⟨ek, sz', []⟩)).set l (some ⟨.o t' i (setM y p (.own L)), ob.sz, ob.xs⟩)) → Gh K s
 | foldr {s : St} (l l' : Nat) (p : List Nat) {t : Option Nat} {i sz c : Nat} {y : AV} {xs : List AV} {ob' : OB} : s.hp l = some ⟨.o t i y, sz, xs⟩ → xU y p 0 = some (.own l', c) → Nat.beq l' l = false → okL l' = true → s.hp l' = some ob' → ob'.e.shut = true →
  Gh K ((s.drop l').set l (some ⟨.o t i (xE l' (setM y p (.rd (.lst ob'.sz ob'.xs)))), sz, xs⟩)) → Gh K s
 | shuts {s : St} (l : Nat) {t sz : Nat} {y y' q : AV} : s.hp l = some ⟨.o (some t) 0 y, sz, [q]⟩ → jY y = some y' → Gh K (s.set l (some ⟨.s t, sz, [y']⟩)) → Gh K s
 | frz {s : St} (l : Nat) : okL l = true → Gh K (s.frz l) → Gh K s
 | drop {s : St} (l : Nat) : okL l = true → Gh K (s.drop l) → Gh K s
 | give {s : St} (l : Nat) {t sz : Nat} {xs : List AV} {e : ET} : s.hp l = some ⟨e, sz, xs⟩ → (e = .d t ∨ e = .z t) → okL l = true → Gh K (s.set l (some ⟨.s t, sz, xs⟩)) → Gh K s
 | z2d {s : St} (l : Nat) {t sz : Nat} {xs : List AV} : s.hp l = some ⟨.z t, sz, xs⟩ → Gh K (s.set l (some ⟨.d t, sz, xs⟩)) → Gh K s
 | s2d {s : St} (l : Nat) {t sz : Nat} {xs : List AV} : s.hp l = some ⟨.s t, sz, xs⟩ → (∀ x ∈ xs, zb x = true) → Gh K (s.set l (some ⟨.d t, sz, xs⟩)) → Gh K s
 | d2s {s : St} (l : Nat) {t sz : Nat} {xs : List AV} : s.hp l = some ⟨.d t, sz, xs⟩ → (∀ x ∈ xs, zb x = true) → Gh K (s.set l (some ⟨.s t, sz, xs⟩)) → Gh K s
 | s2p {s : St} (l : Nat) {t sz : Nat} {xs : List AV} : s.hp l = some ⟨.s t, sz, xs⟩ → Gh K (s.set l (some ⟨.p t 0, sz, xs⟩)) → Gh K s
 | p2d {s : St} (l : Nat) {t k sz : Nat} {xs : List AV} : s.hp l = some ⟨.p t k, sz, xs⟩ → xs.length ≤ k → Gh K (s.set l (some ⟨.d t, sz, xs⟩)) → Gh K s
theorem RDL.allRL {S : Nat → Prop} {w : World} {T : Nat → Prop} : ∀ (xs : List AV) (T : Nat → Prop) (cs : List Value), (∀ x ∈ xs, zb x = true) → RDL w xs T cs → RL S w xs cs
 | [], T, cs, _, h => by unfold RDL at h; unfold RL; exact h.1
 | x :: xs, T, cs, hx, h => by
  unfold RDL at h
  obtain ⟨c1, c2, T1, T2, e, _, h1, h2⟩ := h
  unfold RL
  exact ⟨c1, c2, e, (RD.plain _ _ _ (hx x (by simp)) h1).2 S w, RDL.allRL (T := T) xs T2 c2 (fun y hy => hx y (List.mem_cons_of_mem _ hy)) h2⟩
section
variable {P : Program} {Θ : Tab} {W : World} {M : Hand} {S0 : Nat → Prop} {n : Nat} {s : St} {a : Act} {w : World} {K : St → Prop}
theorem aIF (t : Option Nat) : (ET.shutd t).typ = t := by cases t <;> rfl
theorem aAm (h : Gh K s) : Sim W M S0 n s a w → ∃ s', K s' ∧ Sim W M S0 n s' a w := by
 induction h with
 | done h => exact fun hs => ⟨_, h, hs⟩
 | opn l i ho hop _ ih =>
  rintro ⟨hn, hdf, S, B, V, T, h⟩
  rename_i s ob e' _
  obtain ⟨T', h'⟩ := h.kind (ob' := ⟨e', ob.sz, ob.xs⟩) ho rfl (fun t' e => by
   obtain ⟨_, _, _, hr, ha, _⟩ := h.rows.ro _ _ ho
   have := (RK.opn ha hop hr).2.1
   rw [← this]; exact e) rfl (fun ha cs hr => ⟨ha, T l, fun _ h => h, (RK.opn ha hop hr).2.2⟩) (fun Q hQ => by cases hQ; exact aHi hop)
  exact ih ⟨hn, hdf, S, B, V, T', h'⟩
 | shut l ho hy _ ih =>
  rintro ⟨hn, hdf, S, B, V, T, h⟩
  rename_i s t i sz y z y' xs _
  obtain ⟨T', h'⟩ := h.kind (ob' := ⟨.shutd t, sz, xs.set i y'⟩) ho rfl (fun t' e => by rw [aIF] at e; exact e) aBW (fun ha cs hr => by
   obtain ⟨k1, k2⟩ := RK.shut hy hr
   refine ⟨fun x hx => ?_, T l, fun _ h => h, by cases t <;> exact k1⟩
   rcases List.mem_or_eq_of_mem_set hx with hx | hx
   · exact ha x hx
   · rw [hx]; exact k2) (fun Q hQ => by cases t <;> cases hQ)
  exact ih ⟨hn, hdf, S, B, V, T', h'⟩
 | fold l l' p ho hg hne hok ho' hd _ ih =>
  rintro ⟨hn, hdf, S, B, V, T, h⟩
  obtain ⟨T', h'⟩ := h.fold ho hg (fun e => by rw [e] at hne; simp at hne) hok ho' hd
  exact ih ⟨hn, hdf, S, B, V, T', h'⟩
 | foldr l l' p ho hg hne hok ho' hd _ ih =>
  rintro ⟨hn, hdf, S, B, V, T, h⟩
  obtain ⟨S', h'⟩ := h.foldr ho hg (fun e => by rw [e] at hne; simp at hne) hok ho' hd
  exact ih ⟨hn, hdf, S', B, V, T, h'⟩
 | shuts l ho hy _ ih =>
  rintro ⟨hn, hdf, S, B, V, T, h⟩
  rename_i s t sz y y' q _
  obtain ⟨T', h'⟩ := h.kind (ob' := ⟨.s t, sz, [y']⟩) ho rfl (fun t' e => e) rfl (fun ha cs hr => by
   obtain ⟨k1, k2⟩ := RK.read hy hr
   exact ⟨fun x hx => by rw [List.mem_singleton] at hx; rw [hx]; exact k2, Fa, fun g hg => hg.elim, k1⟩)
  exact ih ⟨hn, hdf, S, B, V, T', h'⟩
 | unfold l i L p ho hop hg hok hf _ ih =>
  rintro ⟨hn, hdf, S, B, V, T, h⟩
  obtain ⟨v, B', V', T', _, _, h', _⟩ := h.unfold ho hop hg hok hf
  exact ih ⟨hn, hdf, S, B', V', T', h'⟩
 | nilx l i L p ek sz' ho hop hg hok hf hek h0 _ ih =>
  rintro ⟨hn, hdf, S, B, V, T, h⟩
  rename_i s ob t' y c _
  obtain ⟨n1, n2⟩ := jF h hf
  obtain ⟨te, hte⟩ := aFE ek
  have h1 := h.repl (w' := w) (ob' := ⟨ek, sz', []⟩) (b' := 0) (v' := .slice none 0 0) (T' := Fa) hok n1 (fun j o _ ho => n2 j o ho) (Grown.refl _ _) ⟨te, [], ⟨hte, ROc.of (aGD hek)⟩, RK.nil (aEs hek), by simp, h0, World.ownsRow_nil _ _ _ _, fun g hg => by simp [Value.ownBlock] at hg⟩ (fun g hg => by
   rcases hg with hg | hg
   · simp [Value.ownBlock] at hg
   · exact hg.elim) (fun g hg => by simp [Value.ownBlock] at hg)
  have hlL : l ≠ L := fun e => by rw [e, hf] at ho; cases ho
  have ho1 : (s.set L (some ⟨ek, sz', []⟩)).hp l = some ob := by rw [yG hlL]; exact ho
  obtain ⟨T', h'⟩ := h1.kind (ob' := ⟨.o t' i (setM y p (.own L)), ob.sz, ob.xs⟩) ho1 rfl (fun t2 e => by
   obtain ⟨_, _, _, hr, ha, _⟩ := h.rows.ro _ _ ho
   have := (RK.opn ha hop hr).2.1
   rw [← this]; exact e) rfl (fun ha cs hr => by
   obtain ⟨_, _, hr1⟩ := RK.opn ha hop hr
   obtain ⟨vs, T1, Tr, k1, k2, k3, k4, k5⟩ := hr1.focus ha hg
   unfold RO1 at k1
   unfold RD at k1
   obtain ⟨hT1, rfl, _⟩ := k1
   have := k5 (.own L) [.slice none 0 0] Fa (upd T L Fa l) rfl (by unfold RO1; exact ⟨noF, ⟨_, yY⟩, by rw [upd_same], by rw [upd_same]; rfl⟩) (by rw [k2.eqr hT1]; exact Split.l0 noF)
   rw [jG k4 k3] at this
   exact ⟨ha, _, fun _ h => h, this⟩)
  exact ih ⟨hn, hdf, S, _, _, T', h'⟩
 | frz l hok _ ih =>
  rintro ⟨hn, hdf, S, B, V, T, h⟩
  obtain ⟨S', _, h', _⟩ := h.frz l hok
  exact ih ⟨hn, hdf, S', B, V, T, h'⟩
 | drop l hok _ ih =>
  rintro ⟨hn, hdf, S, B, V, T, h⟩
  exact ih ⟨hn, hdf, S, B, V, T, h.drop l hok⟩
 | give l ho he hok _ ih =>
  rintro ⟨hn, hdf, S, B, V, T, h⟩
  obtain ⟨S', T', _, h'⟩ := h.give ho he hok
  exact ih ⟨hn, hdf, S', B, V, T', h'⟩
 | z2d l ho _ ih =>
  rintro ⟨hn, hdf, S, B, V, T, h⟩
  obtain ⟨T', h'⟩ := h.kind (ob' := ⟨.d _, _, _⟩) ho rfl (fun t' e => e) rfl (fun ha cs hr => ⟨ha, T l, fun _ h => h, hr.2⟩)
  exact ih ⟨hn, hdf, S, B, V, T', h'⟩
 | s2d l ho hx _ ih =>
  rintro ⟨hn, hdf, S, B, V, T, h⟩
  obtain ⟨T', h'⟩ := h.kind (ob' := ⟨.d _, _, _⟩) ho rfl (fun t' e => e) rfl (fun ha cs hr => ⟨ha, Fa, fun g hg => hg.elim, RL.allRD _ _ hx hr⟩)
  exact ih ⟨hn, hdf, S, B, V, T', h'⟩
 | d2s l ho hx _ ih =>
  rintro ⟨hn, hdf, S, B, V, T, h⟩
  obtain ⟨T', h'⟩ := h.kind (ob' := ⟨.s _, _, _⟩) ho rfl (fun t' e => e) rfl (fun ha cs hr => ⟨ha, Fa, fun g hg => hg.elim, RDL.allRL (T := Fa) _ _ _ hx hr⟩)
  exact ih ⟨hn, hdf, S, B, V, T', h'⟩
 | s2p l ho _ ih =>
  rintro ⟨hn, hdf, S, B, V, T, h⟩
  obtain ⟨T', h'⟩ := h.kind (ob' := ⟨.p _ 0, _, _⟩) ho rfl (fun t' e => e) rfl (fun ha cs hr => ⟨ha, Fa, fun g hg => hg.elim, fun g hg => hg.elim, [], cs, Fa, rfl, fun g hg => hg.elim, by rw [List.take_zero]; unfold RDL; exact ⟨rfl, noF⟩, hr⟩)
  exact ih ⟨hn, hdf, S, B, V, T', h'⟩
 | p2d l ho hx _ ih =>
  rintro ⟨hn, hdf, S, B, V, T, h⟩
  obtain ⟨T', h'⟩ := h.kind (ob' := ⟨.d _, _, _⟩) ho rfl (fun t' e => e) rfl (fun ha cs hr => by
   obtain ⟨_, c1, c2, T1, q1, q2, q3, q4⟩ := hr
   rw [List.drop_eq_nil_of_le hx] at q4
   rw [List.take_of_length_le hx] at q3
   unfold RL at q4
   subst q4
   rw [List.append_nil] at q1
   subst q1
   exact ⟨ha, T1, q2, q3⟩)
  exact ih ⟨hn, hdf, S, B, V, T', h'⟩
end
def tied (ops : Array Oper) (k : Nat) : Bool :=
 let b := Region.before ops
 (List.range ops.size).all fun j => Nat.beq j k || (bif Nat.blt j k then (b.getD k 0).testBit j else (b.getD j 0).testBit k)
def zi (ops : Array Oper) (j k : Nat) : Bool :=
 let b := Region.before ops
 bif Nat.blt j k then (b.getD k 0).testBit j else (b.getD j 0).testBit k
def tmpsOf (o : Oper) : List Tmp := o.op.operands.toList.filterMap fun | .tmp t => some t | _ => none
def vJ (o : Oper) : Bool := o.guard.isNone && match o.op with
 | .move (.tmp _) => true
 | .assign (.tmp _) => true
 | .pick _ _ _ => true
 | .nilCheck _ => true
 | .fieldAddr _ _ _ => true
 | .binOp _ _ _ _ _ => true
 | .extract _ _ => true
 | _ => false
def aGT (_ : Tab) (o : Oper) : Bool := o.guard.isNone && match o.op with
 | .indexAddr _ _ _ => true
 | .load _ _ => true
 | _ => false
def calm (Θ : Tab) (two : Bool) (o : Oper) : Bool := vJ o || (two && aGT Θ o)
def soft (Θ : Tab) (ops : Array Oper) (two : Bool) (k : Nat) : Bool :=
 (match ops[k]? with | some o => !calm Θ true o | none => false) &&
 (List.range ops.size).all fun j => Nat.beq j k || (zi ops j k || (match ops[j]? with
  | some o => (calm Θ two o && (tmpsOf o).all fun t => (List.range ops.size).all fun j' => match (ops[j']?).bind (·.dst) with
   | some t' => !(Nat.beq t' t) || (!(Nat.beq j' j) && ((Region.before ops).getD j 0).testBit j')
   | none => true) && (vJ o || (List.range ops.size).all fun j2 => Nat.beq j2 k || (zi ops j2 k || (match ops[j2]?, o.dst with
    | some o2, some d => !(tmpsOf o2).contains d
    | _, _ => true)))
  | none => true))
def ve (Θ : Tab) (ops : Array Oper) (L : Nat → Bool) (k : Nat) (s : St) (e : Eff) : Prop :=
 ∃ (two : Bool) (ls : List Nat) (f : St → St) (g : AV → AV) (H : (Nat → Option OB) → Nat → Option OB) (M : (Nat → Option (List (ByteArray × AV))) → Nat → Option (List (ByteArray × AV))),
  e.upd = some f ∧ soft Θ ops two k = true ∧ (∀ s, f s = ⟨fun j => g (s.sl j), H s.hp, M s.mp⟩) ∧ (∀ x, (∀ l ∈ ls, x.names l = false) → g x = x) ∧ (two = true → (∀ x, g x = x) ∧ ∀ hp l, l ∉ ls → H hp l = hp l) ∧
  ∀ j o, ops[j]? = some o → j ≠ k → zi ops j k = false → ∀ t, t ∈ tmpsOf o → (∀ j' o', ops[j']? = some o' → o'.dst = some t → L j' = true) → ∀ l ∈ ls, (s.sl t).names l = false
def xh (ops : Array Oper) (s : St) (o : Oper) : Option Bool :=
 match o.guard with
 | none => some true
 | some (j, want) => match (ops[j]?).bind (·.dst) with
  | none => none
  | some t => match s.sl t with
   | .v (.bool b) => some (b == want)
   | .tup [] => some false
   | _ => none
def xJ (P : Program) (Θ : Tab) (n : Nat) (ops : Array Oper) (draw : Bool) : Nat → List Oper → St → (St → Prop) → Prop
 | _, [], s, K => K s
 | k, o :: r, s, K => inN n o.dst = true ∧
  match xh ops s o with
  | some true => ∃ e, Pre P Θ o s e ∧ (draw = true → e.upd = none ∨ tied ops k = true ∨ ve Θ ops (fun j => Nat.blt j k) k s e) ∧
   (xJ P Θ n ops draw (k + 1) r (s.app o.dst e) K ∨ ((draw = true → tied ops k = true) ∧ Gh (fun s' => xJ P Θ n ops draw (k + 1) r s' K) (s.app o.dst e)))
  | some false => xJ P Θ n ops draw (k + 1) r (s.put o.dst (.tup [])) K
  | none => False
structure Inv where
 slots : List (Nat × AV)
 rows : List (Nat × OB)
def aBM : List (Nat × AV) → Nat → AV
 | [], _ => .any
 | (t, x) :: r, j => bif Nat.beq j t then x else aBM r j
def u6 : List (Nat × OB) → Nat → Option OB
 | [], _ => none
 | (t, x) :: r, j => bif Nat.beq j t then some x else u6 r j
def Inv.st (i : Inv) : St := ⟨aBM i.slots, u6 i.rows, fun _ => none⟩
def aKj (s : St) (rows : List (Nat × OB)) (x y : AV) : Prop :=
 x = y ∧ y.within (fun l => (u6 rows l).isSome) = true ∨ ∃ l ob, x = .own l ∧ u6 rows l = none ∧ s.hp l = some ob ∧ (ob.e.shut = true ∧ y = .lst ob.sz ob.xs)
def aDE (s : St) (rows : List (Nat × OB)) : List (Nat × AV) → Prop
 | [] => True
 | (t, y) :: r => aKj s rows (s.sl t) y ∧ aDE s rows r
def aJL (s : St) (all : List (Nat × OB)) (l : Nat) (ob : OB) : Prop :=
 match uT (fun l => (u6 all l).isSome) ob.e with
 | true => s.hp l = some ob
 | false => False
def aEt (s : St) (all : List (Nat × OB)) : List (Nat × OB) → Prop
 | [] => True
 | (l, ob) :: r => aJL s all l ob ∧ aEt s all r
def St.le (s : St) (i : Inv) : Prop := aEt s i.rows i.rows ∧ aDE s i.rows i.slots
structure InvM where
 slots : List (Nat × AV)
 rows : List (Nat × OB)
 maps : List (Nat × List (ByteArray × AV))
def aCW : List (Nat × List (ByteArray × AV)) → Nat → Option (List (ByteArray × AV))
 | [], _ => none
 | (t, x) :: r, j => bif Nat.beq j t then some x else aCW r j
def InvM.st (i : InvM) : St := ⟨aBM i.slots, u6 i.rows, aCW i.maps⟩
def aE7 (s : St) (rows : List (Nat × OB)) : List (Nat × List (ByteArray × AV)) → Prop
 | [] => True
 | (l, es) :: r => (s.mp l = some es ∧ (u6 rows l).isSome = true) ∧ aE7 s rows r
def St.leM (s : St) (i : InvM) : Prop := s.le ⟨i.slots, i.rows⟩ ∧ aE7 s i.rows i.maps
def Inv.m (i : Inv) : InvM := ⟨i.slots, i.rows, []⟩
def fgt (ks : List Nat) (x : AV) : AV := bif ks.any (fun l => x.names l) then .any else x
def uD : List Nat → Option OB → Option OB
 | [], o => o
 | l :: r, o => uD r (xV l o)
def yN : List (Nat × Option OB) → Nat → Option (Option OB)
 | [], _ => none
 | (l, ob) :: r, j => bif Nat.beq j l then some ob else yN r j
def shp (ks : List Nat) (nu : List (Nat × Option OB)) (s : St) : St :=
 ⟨fun j => fgt ks (s.sl j), fun j => match yN nu j with | some o => o | none => uD ks (s.hp j), fun j => match yN nu j with | some _ => none | none => s.mp j⟩
def xq (nu : List (Nat × Option OB)) (l : Nat) : Prop := ∃ o, yN nu l = some o
def yQ (s : St) (o : Oper) (l : Nat) : Prop := ∃ t ∈ tmpsOf o, (s.sl t).names l = true
structure Sft (P : Program) (Θ : Tab) (o : Oper) (s : St) (u : AV) (ks : List Nat) (nu : List (Nat × Option OB)) : Prop where
 loc : ∀ s' : St, (∀ x ∈ o.op.operands, s'.ev x = s.ev x) → (∀ l, xq nu l ∨ yQ s o l → s'.hp l = s.hp l ∧ s'.mp l = s.mp l) → ∃ e, Pre P Θ o s' e ∧ ∀ K : St → Prop, K ((shp ks nu s').put o.dst u) → Gh K (s'.app o.dst e)
 shut : ∀ l ob, yN nu l = some (some ob) → ob.e.shut = true
 ksin : ∀ l ∈ ks, xq nu l
 val : ∀ l, u.names l = true → xq nu l ∨ yQ s o l
 old : ∀ l, xq nu l → (∃ d, o.dst = some d ∧ l % 1000 = (d + 1) % 1000) ∨ yQ s o l
 row : ∀ l ob, xq nu l → s.hp l = some ob → ob.e.shut = true
def aFC (o : Oper) : Bool := match o.op with
 | .store _ _ _ => true
 | _ => false
def aCu (o : Oper) : Bool := match o.op with
 | .move _ => true
 | .assign _ => true
 | .extract _ _ => true
 | .alloc _ => true
 | .load _ _ => true
 | .fieldAddr _ _ _ => true
 | .indexAddr _ _ _ => true
 | .binOp _ _ _ _ _ => true
 | .build _ _ => true
 | .store _ _ _ => true
 | _ => false
def jA (s : St) (o : Oper) (l : Nat) : Prop := ∃ l0 ob, yQ s o l0 ∧ s.hp l0 = some ob ∧ yS l ob.e = true
structure SftG (P : Program) (Θ : Tab) (o : Oper) (s : St) (u : AV) (ks : List Nat) (nu : List (Nat × Option OB)) : Prop where
 loc : ∀ s' : St, (∀ x ∈ o.op.operands, s'.ev x = s.ev x) → (∀ l, xq nu l ∨ yQ s o l → s'.hp l = s.hp l ∧ s'.mp l = s.mp l) → ∃ e, Pre P Θ o s' e ∧ ∀ K : St → Prop, K ((shp ks nu s').put o.dst u) → Gh K (s'.app o.dst e)
 shut : ∀ l ob, yN nu l = some (some ob) → ob.e.shut = true ∨ aFC o = true
 ksin : ∀ l ∈ ks, xq nu l
 val : ∀ l, u.names l = true → xq nu l ∨ yQ s o l ∨ (jA s o l ∧ ∀ ob, s.hp l = some ob → ob.e.shut = true)
 old : ∀ l, xq nu l → (∃ d, o.dst = some d ∧ l % 1000 = (d + 1) % 1000) ∨ yQ s o l
 row : ∀ l ob, xq nu l → s.hp l = some ob → ob.e.shut = true
 new : ∀ l0 ob l, yN nu l0 = some (some ob) → yS l ob.e = true → xq nu l ∨ yQ s o l
theorem vT {l : Nat} {e : ET} (h : e.shut = true) : yS l e = false := by cases e <;> first | rfl | cases h
theorem Sft.g {P : Program} {Θ : Tab} {o : Oper} {s : St} {u : AV} {ks : List Nat} {nu : List (Nat × Option OB)} (h : Sft P Θ o s u ks nu) : SftG P Θ o s u ks nu :=
 ⟨h.loc, fun l ob e => .inl (h.shut l ob e), h.ksin, fun l hl => (h.val l hl).imp id .inl, h.old, h.row, fun l0 ob l e hn => by rw [vT (h.shut l0 ob e)] at hn; cases hn⟩
def kH (ops : Array Oper) (j : Nat) : Bool := (List.range ops.size).all fun m => Nat.beq m j || ((Region.before ops).getD j 0).testBit m
theorem aBa {ops : Array Oper} {j m : Nat} (h : kH ops j = true) (hm : m < ops.size) (hne : m ≠ j) : ((Region.before ops).getD j 0).testBit m = true := by
 have := List.all_eq_true.1 h m (List.mem_range.2 hm)
 rwa [xY hne, Bool.false_or] at this
def uJ (ops : Array Oper) (L : Nat → Bool) (t : Tmp) : Prop := ∀ (j' : Nat) (o' : Oper), ops[j']? = some o' → o'.dst = some t → L j' = true ∨ kH ops j' = true
def wP (o : Oper) : Bool := o.guard.isNone && match o.op with
 | .move (.tmp _) => true
 | _ => false
def wvB (ops : Array Oper) (k : Nat) (o : Oper) : Bool := wP o && (List.range ops.size).all fun j2 => Nat.beq j2 k || (zi ops j2 k || (match ops[j2]?, o.dst with
 | some o2, some d => !(tmpsOf o2).contains d
 | _, _ => true))
structure Ev (P : Program) (Θ : Tab) (ops : Array Oper) (L : Nat → Bool) (k : Nat) (o : Oper) (s : St) (u : AV) (ks : List Nat) (nu : List (Nat × Option OB)) : Prop where
 sft : SftG P Θ o s u ks nu
 apart : ∀ (j : Nat) (o' : Oper), ops[j]? = some o' → j ≠ k → zi ops j k = false → (ks = [] ∧ wvB ops k o' = true) ∨ ∀ t ∈ tmpsOf o', uJ ops L t → ∀ l, xq nu l → (s.sl t).names l = false
 pure : ∀ (j : Nat) (o' : Oper), ops[j]? = some o' → ∀ t ∈ tmpsOf o', uJ ops L t → (∀ l ∈ ks, (s.sl t).names l = false) ∨ (∀ l, (s.sl t).names l = true → xq nu l)
 rows : ∀ (j : Nat) (o' : Oper), ops[j]? = some o' → j ≠ k → zi ops j k = false → ∀ t ∈ tmpsOf o', uJ ops L t → ∀ l ob, (s.sl t).names l = true → s.hp l = some ob → ks = [] ∨ ob.e.shut = true
 disj : ∀ (j : Nat) (o' : Oper), ops[j]? = some o' → j ≠ k → zi ops j k = false → ∀ d, o'.dst = some d → ∀ l, xq nu l → l % 1000 ≠ (d + 1) % 1000
 far : ∀ (j : Nat) (o' : Oper), ops[j]? = some o' → j ≠ k → zi ops j k = false → ∀ t ∈ tmpsOf o', uJ ops L t → ∀ l0 ob l, (s.sl t).names l0 = true → s.hp l0 = some ob → xq nu l → yS l ob.e = false
 cls : ks = [] ∨ ∀ (j : Nat) (o' : Oper), ops[j]? = some o' → ∀ t ∈ tmpsOf o', uJ ops L t → ∀ l0 ob, (s.sl t).names l0 = true → s.hp l0 = some ob → ob.e.shut = true
 opn : aFC o = true → ∀ (j : Nat) (o' : Oper), ops[j]? = some o' → j ≠ k → zi ops j k = false → aCu o' = true
 nks : aCu o = true → ks = []
 qt : wP o = true → nu = [] ∧ Pre P Θ o s ⟨u, none⟩
def qH (ops : Array Oper) : Prop := ∀ (j : Nat) (o : Oper), ops[j]? = some o → ∀ t ∈ tmpsOf o, ∀ (j' : Nat) (o' : Oper), ops[j']? = some o' → o'.dst = some t → j' ≠ j ∧ (((Region.before ops).getD j 0).testBit j' = true ∨ kH ops j' = true)
def xQ (P : Program) (Θ : Tab) (n : Nat) (ops : Array Oper) : Nat → List Oper → St → (St → Prop) → Prop
 | _, [], s, K => Gh K s
 | k, o :: r, s, K => inN n o.dst = true ∧ o.guard = none ∧
  ((∃ u ks nu, Ev P Θ ops (fun j => Nat.blt j k) k o s u ks nu ∧ xQ P Θ n ops (k + 1) r ((shp ks nu s).put o.dst u) K) ∨
   (tied ops k = true ∧ ∃ e, Pre P Θ o s e ∧ Gh (fun s' => xQ P Θ n ops (k + 1) r s' K) (s.app o.dst e)))
inductive AEx where
 | normal | exit (id : Nat) | ret
def AEx.then (next : St → Prop) (Q : AEx → St → Prop) : AEx → St → Prop
 | .normal, s => next s
 | e, s => Q e s
def AEx.inBlock (id : Nat) (Q : AEx → St → Prop) : AEx → St → Prop
 | .exit j, s => bif Nat.beq j id then Q .normal s else Q (.exit j) s
 | e, s => Q e s
def WpN (P : Program) (c : Code) (Q : Exit → Act → World → Prop) (a : Act) (w : World) : Prop :=
 ∀ (b : Frame), b.kind = .normal → ∀ (k : List Item) (cs : List Frame), ∃ e a' w', Q e a' w' ∧ Arrives P (lone (b.at a (.code c :: k)) cs w) b k cs e a' w'
def aLG (P : Program) (n : Nat) (id : Nat) (ops : Array Oper) (s : St) (K : St → Prop) : Prop :=
 ∀ (W : World) (M : Hand) (S0 : Nat → Prop) (a : Act) (w : World), Sim W M S0 n s a w → WpN P (.region id ops false) (fun e a' w' => e = .normal ∧ ∃ s', K s' ∧ Sim W M S0 n s' a' w') a w
def xD (P : Program) (Θ : Tab) (n : Nat) : Code → (AEx → St → Prop) → St → Prop
 | .skip, Q, s => Q .normal s
 | .label _, Q, s => Q .normal s
 | .region id ops draw, Q, s => ((draw = true → Region.lexB .any ops = true) ∧ xJ P Θ n ops draw 0 ops.toList s (Q .normal)) ∨
  (draw = true ∧ Region.lexB .any ops = true ∧ qH ops ∧ xQ P Θ n ops 0 ops.toList s (Q .normal)) ∨ (draw = false ∧ aLG P n id ops s (Q .normal))
 | .seq a b, Q, s => xD P Θ n a (AEx.then (xD P Θ n b Q) Q) s ∨ ∃ (ι : Type) (I : ι → InvM), xD P Θ n a (AEx.then (fun s' => ∃ j, s'.leM (I j)) Q) s ∧ ∀ j, xD P Θ n b Q (I j).st
 | .cond c x y, Q, s => ∃ b, s.ev c = .v (.bool b) ∧ (match b with | true => xD P Θ n x Q s | false => xD P Θ n y Q s)
 | .block id c, Q, s => xD P Θ n c (AEx.inBlock id Q) s
 | .loop c, Q, s => ∃ (ι : Type) (I : ι → InvM) (μ : ι → Nat), (∃ i, s.leM (I i)) ∧ ∀ i, xD P Θ n c (AEx.then (fun s' => ∃ j, s'.leM (I j) ∧ μ j < μ i) Q) (I i).st
 | .exit id, Q, s => Q (.exit id) s
 | .ret, Q, s => Q .ret s
 | _, _, _ => False
section
variable {P : Program} {Θ : Tab} {W : World} {M : Hand} {S0 : Nat → Prop} {n : Nat} {ops : Array Oper} {s : St} {a : Act} {w : World} {Q : Exit → Act → World → Prop}
theorem aE2 {i : InvM} (hs : Sim W M S0 n s a w) (hl : s.leM i) : Sim W M S0 n i.st a w := by
 obtain ⟨hn, hdf, S, B, V, T, h⟩ := hs
 obtain ⟨⟨hr, hsl⟩, hml⟩ := hl
 have hrows : ∀ (rows : List (Nat × OB)), aEt s i.rows rows → ∀ l ob, u6 rows l = some ob → s.hp l = some ob ∧ uT (fun l => (u6 i.rows l).isSome) ob.e = true := by
  intro rows
  induction rows with
  | nil => intro _ l ob e; simp [u6] at e
  | cons q rows ih =>
   obtain ⟨t, ob0⟩ := q
   intro hr l ob e
   simp only [u6] at e
   by_cases hl : l = t
   · subst hl; simp at e; subst e
     have h1 := hr.1
     unfold aJL at h1
     cases hw : uT (fun l => (u6 i.rows l).isSome) ob0.e with
     | true => rw [hw] at h1; exact ⟨h1, rfl⟩
     | false => rw [hw] at h1; exact h1.elim
   · rw [xY hl] at e; exact ih hr.2 l ob e
 have hrow := hrows i.rows hr
 have hmaps : ∀ (ms : List (Nat × List (ByteArray × AV))), aE7 s i.rows ms → ∀ l es, aCW ms l = some es → s.mp l = some es ∧ (u6 i.rows l).isSome = true := by
  intro ms
  induction ms with
  | nil => intro _ l es e; simp [aCW] at e
  | cons q ms ih =>
   obtain ⟨t, x⟩ := q
   intro hq l es e
   simp only [aCW] at e
   by_cases hl : l = t
   · subst hl; simp at e; rw [← e]; exact hq.1
   · rw [xY hl] at e; exact ih hq.2 l es e
 have hmap := hmaps i.maps hml
 let S' : Nat → Prop := fun g => S g ∨ ∃ l ob, s.hp l = some ob ∧ u6 i.rows l = none ∧ Blk V T l g
 have hm : ∀ b, S b → S' b := fun b hb => .inl hb
 have hsame : ∀ l, (u6 i.rows l).isSome = true → Same s.hp (u6 i.rows) B B V V l := fun l hl ob ho => by
  obtain ⟨ob', ho'⟩ := Option.isSome_iff_exists.1 hl
  have := (hrow l ob' ho').1
  rw [ho] at this; cases this
  exact ⟨ob, ho', rfl, rfl, rfl⟩
 refine ⟨hn, hdf, S', B, V, T, h.below, fun b hb => hm b (h.s0 b hb), fun b hb => ?_, fun t => ?_, ⟨fun l ob ho => ?_, fun l ob g ho hg => ?_, fun l ob g ho => h.rows.nd l ob g (hrow l ob ho).1, fun l l' o1 o2 g h1 h2 => h.rows.ds l l' o1 o2 g (hrow l o1 h1).1 (hrow l' o2 h2).1, fun l es e => ?_⟩, h.pin, h.gl⟩
 · rcases hb with hb | ⟨l, ob, ho, _, hg⟩
   · exact h.slt b hb
   · obtain ⟨_, k2, k3⟩ := h.rows.me l ob b ho hg
     exact ⟨k2, .inr k3⟩
 · have hslots : ∀ (sl : List (Nat × AV)), aDE s i.rows sl → RV S' w (u6 i.rows) B V (aBM sl t) (a.tmps.getD t undef) := by
    intro sl
    induction sl with
    | nil => intro _; show RV _ _ _ _ _ .any _; unfold RV; trivial
    | cons q sl ih =>
     obtain ⟨u, y⟩ := q
     intro hq
     by_cases ht : t = u
     · subst ht
       show RV _ _ _ _ _ (bif Nat.beq t t then y else aBM sl t) _
       simp only [Nat.beq_refl, cond_true]
       have hx := h.sl t
       rcases hq.1 with ⟨e, hnm⟩ | ⟨l, ob, e, hno, ho, hsh, rfl⟩
       · rw [e] at hx
         exact RV.carry hm (fun _ _ => rfl) y _ (fun l hl => hsame l (uZ y hnm hl)) hx
       · rw [e] at hx
         unfold RV at hx ⊢
         rw [hx.2]
         exact aBJ h hm ho hsh (fun g hg => .inr ⟨l, ob, ho, hno, hg⟩)
     · show RV _ _ _ _ _ (bif Nat.beq t u then y else aBM sl t) _
       rw [xY ht]; exact ih hq.2
   exact hslots i.slots hsl
 · obtain ⟨ho', hw⟩ := hrow l ob ho
   exact (h.rows.ro l ob ho').carry hm (fun _ _ => rfl) (fun j hj => hsame j (wR hw hj)) (fun _ _ => rfl) (fun _ _ => rfl)
 · obtain ⟨ho', _⟩ := hrow l ob ho
   obtain ⟨k1, k2, k3⟩ := h.rows.me l ob g ho' hg
   refine ⟨fun hs => ?_, k2, k3⟩
   rcases hs with hs | ⟨l', ob', ho2, hno, hg'⟩
   · exact k1 hs
   · have := h.rows.ds l l' ob ob' g ho' ho2 hg hg'
     subst this
     have hl2 : u6 i.rows l = some ob := ho
     rw [hno] at hl2; cases hl2
 · obtain ⟨e1, e2⟩ := hmap l es e
   obtain ⟨⟨t, ho⟩, k⟩ := h.rows.mp l es e1
   obtain ⟨ob', ho'⟩ := Option.isSome_iff_exists.1 e2
   have := (hrow l ob' ho').1
   rw [ho] at this; cases this
   exact ⟨⟨t, ho'⟩, k⟩
end
section
variable {P : Program} {Θ : Tab} {s s' : St}
mutual
theorem ug (hh : s.hp = s'.hp) : ∀ x : AV, s.dat x = s'.dat x
 | .own l => by simp only [St.dat, hh]
 | .optr l i p c => by simp only [St.dat, hh]
 | .mix xs => by simp only [St.dat, aAJ hh xs]
 | .ifc t x => by simp only [St.dat, ug hh x]
 | .rd x => rfl
 | .any => rfl
 | .v _ => rfl
 | .agg _ => rfl
 | .lst _ _ => rfl
 | .ptr _ => rfl
 | .tup _ => rfl
 | .mapv _ => rfl
 | .fn _ _ _ => rfl
theorem aAJ (hh : s.hp = s'.hp) : ∀ xs : List AV, s.datL xs = s'.datL xs
 | [] => rfl
 | x :: xs => by simp only [St.datL, ug hh x, aAJ hh xs]
end
mutual
theorem zy (hh : s.hp = s'.hp) : ∀ x : AV, xG s x = xG s' x
 | .own l => by simp only [xG, hh]
 | .optr l i p c => by simp only [xG, hh]
 | .mix xs => by simp only [xG, jP hh xs]
 | .ifc t x => rfl
 | .rd x => rfl
 | .any => rfl
 | .v _ => rfl
 | .agg _ => rfl
 | .lst _ _ => rfl
 | .ptr _ => rfl
 | .tup _ => rfl
 | .mapv _ => rfl
 | .fn _ _ _ => rfl
theorem jP (hh : s.hp = s'.hp) : ∀ xs : List AV, zX s xs = zX s' xs
 | [] => rfl
 | x :: xs => by simp only [zX, zy hh x, jP hh xs]
end
theorem aGP (hh : s.hp = s'.hp) (x : AV) : wT s x = wT s' x := by
 cases x with
 | fn f xs ys => cases xs <;> cases ys <;> rfl
 | _ => first | rfl | exact zy hh _
theorem qW (hh : s.hp = s'.hp) : ∀ xs : List AV, zo s xs = zo s' xs
 | [] => rfl
 | x :: xs => by simp only [zo, aGP hh x, qW hh xs]
mutual
theorem aCB (hh : s.hp = s'.hp) (Ls : List Nat) : ∀ x : AV, vW s Ls x = vW s' Ls x
 | .own l => by simp only [vW, zy hh]
 | .optr l i p c => by simp only [vW, zy hh]
 | .mix xs => by simp only [vW, jP hh xs]
 | .ifc t x => by simp only [vW, aCB hh Ls x]
 | .fn _ xs ys => by simp only [vW, jD hh Ls xs, jD hh Ls ys]
 | .rd x => rfl
 | .any => rfl
 | .v _ => rfl
 | .agg _ => rfl
 | .lst _ _ => rfl
 | .ptr _ => rfl
 | .tup _ => rfl
 | .mapv _ => rfl
theorem jD (hh : s.hp = s'.hp) (Ls : List Nat) : ∀ xs : List AV, wH s Ls xs = wH s' Ls xs
 | [] => rfl
 | x :: xs => by simp only [wH, aCB hh Ls x, jD hh Ls xs]
end
mutual
theorem aCI (hh : s.hp = s'.hp) (Ls : List Nat) : ∀ x : AV, s.datH Ls x = s'.datH Ls x
 | .own l => by simp only [St.datH, ug hh]
 | .optr l i p c => by simp only [St.datH, ug hh]
 | .mix xs => by simp only [St.datH, aAJ hh xs]
 | .ifc t x => by simp only [St.datH, aCI hh Ls x]
 | .fn _ xs ys => by simp only [St.datH, jE hh Ls xs, jE hh Ls ys]
 | .rd x => rfl
 | .any => rfl
 | .v _ => rfl
 | .agg _ => rfl
 | .lst _ _ => rfl
 | .ptr _ => rfl
 | .tup _ => rfl
 | .mapv _ => rfl
theorem jE (hh : s.hp = s'.hp) (Ls : List Nat) : ∀ xs : List AV, s.datHL Ls xs = s'.datHL Ls xs
 | [] => rfl
 | x :: xs => by simp only [St.datHL, aCI hh Ls x, jE hh Ls xs]
end
theorem w9 {xs : List Operand} (h : ∀ x ∈ xs, s.ev x = s'.ev x) : xs.map s.ev = xs.map s'.ev := List.map_congr_left h
theorem qZ (hh : s.hp = s'.hp) : ∀ (ps : List (Nat × Operand)) (z : List AV), (∀ x ∈ ps, s.ev x.2 = s'.ev x.2) → zD s z ps = zD s' z ps ∧ (vU s z ps ↔ vU s' z ps)
 | [], z, _ => ⟨rfl, Iff.rfl⟩
 | (i, x) :: ps, z, h => by
  have hx := h (i, x) (by simp)
  simp only at hx
  have ih := qZ hh ps (z.set i (s'.dat (s'.ev x))) (fun y hy => h y (List.mem_cons_of_mem _ hy))
  unfold zD vU
  rw [hx, ug hh, zy hh]
  exact ⟨ih.1, by rw [ih.2]⟩
theorem aDY : ∀ (ps : List (Nat × Operand)) (z : List AV), (∀ x ∈ ps, s.ev x.2 = s'.ev x.2) → vN s z ps = vN s' z ps ∧ (aAU s z ps ↔ aAU s' z ps)
 | [], z, _ => ⟨rfl, Iff.rfl⟩
 | (i, x) :: ps, z, h => by
  have hx := h (i, x) (by simp)
  simp only at hx
  have ih := aDY ps (z.set i ((toO (s'.ev x)).getD .any)) (fun y hy => h y (List.mem_cons_of_mem _ hy))
  unfold vN aAU
  rw [hx]
  exact ⟨ih.1, by rw [ih.2]⟩
theorem jN (hh : s.hp = s'.hp) (d : Nat) : ∀ (obs : List OB) (k : Nat), yB s d k obs ↔ yB s' d k obs
 | [], k => Iff.rfl
 | _ :: obs, k => by unfold yB; rw [hh, jN hh d obs (k + 1)]
theorem aAn (hh : s.hp = s'.hp) (Ls : List Nat) : ∀ (L : List Nat) (obs : List OB), handed s Ls L obs ↔ handed s' Ls L obs
 | [], [] => Iff.rfl
 | [], _ :: _ => Iff.rfl
 | _ :: _, [] => Iff.rfl
 | l :: L, o :: obs => by unfold handed; rw [hh, aAn hh Ls L obs]
theorem aG8 (hh : s.hp = s'.hp) (x : AV) : kX s x = kX s' x := by
 cases x with
 | v c => unfold kX; simp only [hh]
 | own l => simp only [kX, hh]
 | _ => rfl
theorem aB1 (hh : s.hp = s'.hp) {f : FuncId} {d : Tmp} {out : Out} {A : List AV} {e : Eff} (h : aBE P s f d out A e) : aBE P s' f d out A e := by
 unfold aBE at h ⊢
 rcases h with ⟨args, ha, hac, hfr, hok, h⟩ | ⟨args, rin, rout, Ls, ha, hac, hhd, hnd, hsz, hfr, hok, hwi, hwe, hfl, rfl⟩
 · refine .inl ⟨args, ?_, hac, (jN hh (d + 1) _ _).1 hfr, by rw [← qW hh]; exact hok, h⟩
   rw [← ha]; exact List.map_congr_left fun x _ => (ug hh x).symm
 · exact .inr ⟨args, rin, rout, Ls, by rw [← jE hh]; exact ha, hac, (aAn hh Ls _ _).1 hhd, hnd, hsz, (jN hh (d + 1) _ _).1 hfr, by rw [← jD hh]; exact hok, hwi, hwe, hfl, rfl⟩
theorem aDH (hh : s.hp = s'.hp) (hmp : s.mp = s'.mp) {o : Oper} {e : Eff} (he : ∀ x ∈ o.op.operands, s.ev x = s'.ev x) (h : Pre P Θ o s e) : Pre P Θ o s' e := by
 obtain ⟨dst, op, ty, pos, after, guard⟩ := o
 cases op <;> simp only [Op.operands] at he
 case build t ps =>
  simp only [Pre] at h ⊢
  have hm : ∀ x ∈ ps.toList, s.ev x.2 = s'.ev x.2 := fun x hx => he x.2 (by simpa using ⟨x.1, by simpa using hx⟩)
  have ho : yF s (ps.toList.map (·.2)) = yF s' (ps.toList.map (·.2)) := by unfold yF; rw [w9 (s := s) (s' := s') (fun x hx => by obtain ⟨y, hy, rfl⟩ := List.mem_map.1 hx; exact hm y hy)]
  obtain ⟨fs, z, ht, ⟨hp, hc, hall, rfl⟩ | ⟨hp, hc, rfl⟩⟩ := h
  · have hcc := qZ hh ps.toList z hm
    exact ⟨fs, z, ht, .inl ⟨hcc.2.1 hp, hc, ho ▸ hall, by rw [hcc.1, ho]⟩⟩
  · have hcc := aDY ps.toList (wW z) hm
    exact ⟨fs, z, ht, .inr ⟨hcc.2.1 hp, hc, by rw [hcc.1]⟩⟩
 case buildSlice t m ps =>
  simp only [Pre] at h ⊢
  have hm : ∀ x ∈ ps.toList, s.ev x.2 = s'.ev x.2 := fun x hx => he x.2 (by simpa using ⟨x.1, by simpa using hx⟩)
  have ho : yF s (ps.toList.map (·.2)) = yF s' (ps.toList.map (·.2)) := by unfold yF; rw [w9 (s := s) (s' := s') (fun x hx => by obtain ⟨y, hy, rfl⟩ := List.mem_map.1 hx; exact hm y hy)]
  obtain ⟨d, el, sz, b, z, hd, hf, hok, ht, hn, ⟨hp, hc, hall, rfl⟩ | ⟨x, y, hn1, rfl, hc, hy, hsz, rfl⟩⟩ := h
  · have hcc := qZ hh ps.toList (List.replicate m z) hm
    exact ⟨d, el, sz, b, z, hd, hh ▸ hf, hok, ht, hn, .inl ⟨hcc.2.1 hp, hc, ho ▸ hall, by rw [hcc.1, ho]⟩⟩
  · exact ⟨d, el, sz, b, z, hd, hh ▸ hf, hok, ht, hn, .inr ⟨x, y, hn1, rfl, hc, by rw [← hm (0, x) (by simp)]; exact hy, hsz, rfl⟩⟩
 case call c =>
  obtain ⟨callee, ags, ts⟩ := c
  cases callee with
  | invoke r m =>
   simp only [Call.operands] at he
   simp only [Pre] at h ⊢
   have hm : ∀ x ∈ ags.toList, s.ev x = s'.ev x := fun x hx => he x (by simp at hx ⊢; exact .inr hx)
   obtain ⟨t, y, y', f, d, out, hg, hvia, hd, hcs, h⟩ := h
   refine ⟨t, y, y', f, d, out, (he r (by simp)) ▸ hg, hvia, hd, hcs, ?_⟩
   rw [w9 hm] at h
   exact aB1 hh h
  | builtin b =>
   simp only [Call.operands] at he
   have gen : (∃ vs r, (ags.toList.mapM fun x => xX (s.ev x)) = some vs ∧ (∀ w, (builtin b ts ty (ags.map fun | .const _ => true | _ => false) vs.toArray).run P w = .ok (.value r) w) ∧ r.oneCell' = true ∧ e = ⟨.v r, none⟩) → (∃ vs r, (ags.toList.mapM fun x => xX (s'.ev x)) = some vs ∧ (∀ w, (builtin b ts ty (ags.map fun | .const _ => true | _ => false) vs.toArray).run P w = .ok (.value r) w) ∧ r.oneCell' = true ∧ e = ⟨.v r, none⟩) := fun ⟨vs, r, h1, h2⟩ => by
    refine ⟨vs, r, ?_, h2⟩
    rw [← h1]
    have : ∀ l : List Operand, (∀ x ∈ l, s.ev x = s'.ev x) → (l.mapM fun x => xX (s'.ev x)) = l.mapM fun x => xX (s.ev x) := by
     intro l
     induction l with
     | nil => intro _; rfl
     | cons x l ih => intro hx; simp only [List.mapM_cons, hx x (by simp), ih (fun y hy => hx y (List.mem_cons_of_mem _ hy))]
    exact this _ (fun x hx => he x (by simp at hx ⊢; exact hx))
   by_cases hb1 : b = .len
   · subst hb1
     simp only [Pre] at h ⊢
     obtain ⟨x, t, m, rfl, rfl, hl, hok, rfl⟩ := h
     have := he x (by simp)
     exact ⟨x, t, m, rfl, rfl, by rw [← this, ← aG8 hh]; exact hl, by rw [← this]; exact hok, rfl⟩
   by_cases hb3 : b = .delete
   · subst hb3
     simp only [Pre] at h ⊢
     obtain ⟨x, y, t, t2, l, ent, kk, kt, vt, z, rfl, rfl, ht, hx, hm, hy, rfl⟩ := h
     exact ⟨x, y, t, t2, l, ent, kk, kt, vt, z, rfl, rfl, ht, he x (by simp) ▸ hx, hmp ▸ hm, he y (by simp) ▸ hy, rfl⟩
   by_cases hb2 : b = .append
   · subst hb2
     simp only [Pre] at h ⊢
     obtain ⟨x, y, t, el, sz, b, z, l, ob, ys, rfl, rfl, ht, hx, ho, h0, h1, h2, h3, hy⟩ := h
     have e1 := he x (by simp)
     have e2 := he y (by simp)
     exact ⟨x, y, t, el, sz, b, z, l, ob, ys, rfl, rfl, ht, e1 ▸ hx, hh ▸ ho, h0, h1, h2, h3, by rw [← e2, ← hh]; exact hy⟩
   cases b <;> first | exact absurd rfl hb1 | exact absurd rfl hb2 | exact absurd rfl hb3 | exact gen h
  | value g =>
   simp only [Call.operands] at he
   simp only [Pre] at h ⊢
   have hm : ∀ x ∈ ags.toList, s.ev x = s'.ev x := fun x hx => he x (by simp at hx ⊢; exact .inr hx)
   have hgg := he g (by simp)
   obtain ⟨f, xs, ys, d, out, hg, hd, hcs, h⟩ := h
   refine ⟨f, xs, ys, d, out, hgg ▸ hg, hd, hcs, ?_⟩
   rw [w9 hm] at h
   exact aB1 hh h
 case slice t x lo hi mx =>
  simp only [Pre] at h ⊢
  have e1 := he x (by simp)
  have hlo : ∀ y ∈ lo.toList, s.ev y = s'.ev y := fun y hy => he y (by simp at hy ⊢; simp [hy])
  have hhi : ∀ y ∈ hi.toList, s.ev y = s'.ev y := fun y hy => he y (by simp at hy ⊢; simp [hy])
  have hmx : ∀ y ∈ mx.toList, s.ev y = s'.ev y := fun y hy => he y (by simp at hy ⊢; simp [hy])
  rcases h with ⟨p, r, hx, hall, hr, h1, rfl⟩ | ⟨el, sz, b, z, xs, l, h', ht, hmx0, hx, hl, hh', h1, h2, rfl⟩
  · have hone : ∀ (m : Option Operand), (∀ y ∈ m.toList, s.ev y = s'.ev y) → (m.map fun y => (xX (s'.ev y)).getD undef) = m.map fun y => (xX (s.ev y)).getD undef := fun m hm => by
     cases m with
     | none => rfl
     | some y => simp [hm y (by simp)]
    refine .inl ⟨p, r, e1 ▸ hx, fun y hy => ?_, by rw [hone lo hlo, hone hi hhi, hone mx hmx]; exact hr, h1, rfl⟩
    have hy' : s.ev y = s'.ev y := by
     rcases List.mem_append.1 hy with hy | hy
     · rcases List.mem_append.1 hy with hy | hy
       · exact hlo y hy
       · exact hhi y hy
     · exact hmx y hy
    rw [← hy']; exact hall y hy
  · refine .inr ⟨el, sz, b, z, xs, l, h', ht, hmx0, e1 ▸ hx, ?_, ?_, h1, h2, rfl⟩
    · cases lo with
      | none => exact hl
      | some y => unfold aCX at hl ⊢; simp only at hl ⊢; rw [← hlo y (by simp)]; exact hl
    · cases hi with
      | none => exact hh'
      | some y => unfold aAo at hh' ⊢; simp only at hh' ⊢; rw [← hhi y (by simp)]; exact hh'
 case box t x =>
  simp only [Pre] at h ⊢
  have e1 := he x (by simp)
  rw [← e1, ← hh, ← ug hh, ← zy hh]; exact h
 case store t x y =>
  simp only [Pre] at h ⊢
  have e1 := he x (by simp)
  have e2 := he y (by simp)
  rw [← e1, ← e2, ← hh, ← ug hh, ← zy hh]; exact h
 case alloc t => simp only [Pre] at h ⊢; rw [← hh]; exact h
 case makeMap t r =>
  simp only [Pre] at h ⊢
  obtain ⟨d, kt, vt, z, hd, hf, hok, ht, hr, rfl⟩ := h
  exact ⟨d, kt, vt, z, hd, hh ▸ hf, hok, ht, fun x hx => by rw [← he x (by simpa using hx)]; exact hr x hx, rfl⟩
 case makeFunc fn f c =>
  simp only [Pre] at h ⊢
  obtain ⟨g, rfl, hc, rfl⟩ := h
  exact ⟨g, rfl, hc, by rw [w9 (s := s) (s' := s') (xs := f.toList) (fun x hx => he x (by simp at hx ⊢; exact .inl hx)), w9 (s := s) (s' := s') (xs := c.toList) (fun x hx => he x (by simp at hx ⊢; exact .inr hx))]⟩
 case makeInterface t x => simp only [Pre] at h ⊢; rw [← he x (by simp)]; exact h
 case mapUpdate t m k v => simp only [Pre] at h ⊢; rw [← he m (by simp), ← he k (by simp), ← he v (by simp), ← hmp]; exact h
 case insert t m k v => simp only [Pre] at h ⊢; rw [← he m (by simp), ← he k (by simp), ← he v (by simp), ← hmp]; exact h
 case lookup t m k ok => simp only [Pre] at h ⊢; rw [← he m (by simp), ← he k (by simp), ← hmp]; exact h
 case move x => simp only [Pre] at h ⊢; rw [← he x (by simp), ← hh]; exact h
 case assign x => simp only [Pre] at h ⊢; rw [← he x (by simp), ← hh]; exact h
 case nilCheck x => simp only [Pre] at h ⊢; rw [← he x (by simp)]; exact h
 case pick c x y => simp only [Pre] at h ⊢; rw [← he c (by simp), ← he x (by simp), ← he y (by simp)]; exact h
 case binOp op t x y t2 => simp only [Pre] at h ⊢; rw [← he x (by simp), ← he y (by simp)]; exact h
 case unOp op t x => simp only [Pre] at h ⊢; rw [← he x (by simp)]; exact h
 case convert t1 t2 x => simp only [Pre] at h ⊢; rw [← he x (by simp), ← ug hh, ← qW hh]; exact h
 case index t x i => simp only [Pre] at h ⊢; rw [← he x (by simp), ← he i (by simp)]; exact h
 case extract x i => simp only [Pre] at h ⊢; rw [← he x (by simp)]; exact h
 case typeAssert x xT asserted ok => simp only [Pre] at h ⊢; rw [← he x (by simp)]; exact h
 case field t x f => simp only [Pre] at h ⊢; rw [← he x (by simp)]; exact h
 case makeSlice t l c => simp only [Pre] at h ⊢; rw [← he l (by simp), ← he c (by simp), ← hh]; exact h
 case load t x => simp only [Pre] at h ⊢; rw [← he x (by simp), ← hh]; exact h
 case fieldAddr t x f => simp only [Pre] at h ⊢; rw [← he x (by simp)]; exact h
 case indexAddr t x i => simp only [Pre] at h ⊢; rw [← he x (by simp), ← he i (by simp), ← hh]; exact h
 all_goals (simp only [Pre] at h)
theorem aK0 {d : Option Tmp} {v : AV} {x : Operand} (h : ∀ t, d = some t → x ≠ .tmp t) : (s.put d v).ev x = s.ev x := by
 cases d with
 | none => rfl
 | some t =>
  cases x with
  | tmp u =>
   have hne : u ≠ t := fun e => h t rfl (by rw [e])
   show (bif Nat.beq u t then v else s.sl u) = s.sl u
   rw [xY hne]; rfl
  | _ => rfl
theorem jm {d : Option Tmp} {v : AV} : (s.put d v).hp = s.hp := by cases d <;> rfl
theorem aAv {d : Option Tmp} {v : AV} : (s.put d v).mp = s.mp := by cases d <;> rfl
theorem put_comm (s : St) {x y : Option Tmp} (v u : AV) (h : ∀ d, x = some d → y ≠ some d) : (s.put x v).put y u = (s.put y u).put x v := by
 cases x with
 | none => cases y <;> rfl
 | some d =>
  cases y with
  | none => rfl
  | some e =>
   have hne : d ≠ e := fun he => h d rfl (he ▸ rfl)
   show St.mk _ _ _ = St.mk _ _ _
   congr 1
   funext j
   show (bif Nat.beq j e then u else bif Nat.beq j d then v else s.sl j) = (bif Nat.beq j d then v else bif Nat.beq j e then u else s.sl j)
   by_cases h1 : j = e
   · subst h1; simp [xY (Ne.symm hne)]
   · rw [xY h1]; simp
end
theorem aFP {ops : Array Oper} {j m : Nat} (h : ((Region.before ops).getD j 0).testBit m = true) : ∃ o, ops[j]? = some o ∧ ∃ e ∈ o.after, Region.binds .any e = true ∧ (e.on = m ∨ (e.on < j ∧ ((Region.before ops).getD e.on 0).testBit m = true)) := by
 let g : Array Nat → Oper → Nat := fun acc o => o.after.foldl (fun s e => if Region.binds .any e then s ||| 2 ^ e.on ||| acc.getD e.on 0 else s) 0
 have hg : ∀ (acc : Array Nat) (o : Oper) (m : Nat), (g acc o).testBit m = true → ∃ e ∈ o.after, Region.binds .any e = true ∧ (e.on = m ∨ (acc.getD e.on 0).testBit m = true) := by
  intro acc o m hm
  have key : ∀ (l : List Edge) (s : Nat), (l.foldl (fun s e => if Region.binds .any e then s ||| 2 ^ e.on ||| acc.getD e.on 0 else s) s).testBit m = true → s.testBit m = true ∨ ∃ e ∈ l, Region.binds .any e = true ∧ (e.on = m ∨ (acc.getD e.on 0).testBit m = true) := by
   intro l
   induction l with
   | nil => intro s h; exact .inl h
   | cons e l ih =>
    intro s h
    rcases ih _ h with h1 | ⟨e', he', hb, hr⟩
    · dsimp only at h1
      by_cases hb : Region.binds .any e = true
      · rw [if_pos hb] at h1
        simp only [Nat.testBit_or, Bool.or_eq_true, Nat.testBit_two_pow, decide_eq_true_eq] at h1
        rcases h1 with (h1 | h1) | h1
        · exact .inl h1
        · exact .inr ⟨e, by simp, hb, .inl h1⟩
        · exact .inr ⟨e, by simp, hb, .inr h1⟩
      · rw [if_neg hb] at h1; exact .inl h1
    · exact .inr ⟨e', List.mem_cons_of_mem _ he', hb, hr⟩
  have h0 := hm
  simp only [g, ← Array.foldl_toList] at h0
  rcases key _ _ h0 with h1 | ⟨e, he, r⟩
  · simp at h1
  · exact ⟨e, by simpa using he, r⟩
 have hfold : ∀ (l : List Oper) (acc : Array Nat), (l.foldl (fun acc o => acc.push (g acc o)) acc).size = acc.size + l.length ∧ (∀ k, k < acc.size → (l.foldl (fun acc o => acc.push (g acc o)) acc)[k]? = acc[k]?) ∧
  ∀ t o, l[t]? = some o → ∃ pre : Array Nat, pre.size = acc.size + t ∧ (l.foldl (fun acc o => acc.push (g acc o)) acc)[acc.size + t]? = some (g pre o) ∧ ∀ k, k < pre.size → (l.foldl (fun acc o => acc.push (g acc o)) acc)[k]? = pre[k]? := by
  intro l
  induction l with
  | nil => intro acc; exact ⟨by simp, fun _ _ => rfl, fun t o h => by simp at h⟩
  | cons x l ih =>
   intro acc
   obtain ⟨h1, h2, h3⟩ := ih (acc.push (g acc x))
   simp only [List.foldl_cons]
   refine ⟨by rw [h1]; simp; omega, fun k hk => by rw [h2 k (by simp; omega), Array.getElem?_push, if_neg (by omega)], fun t o ho => ?_⟩
   cases t with
   | zero =>
    simp at ho; subst ho
    refine ⟨acc, rfl, by rw [Nat.add_zero, h2 acc.size (by simp)]; simp, fun k hk => by rw [h2 k (by simp; omega), Array.getElem?_push, if_neg (by omega)]⟩
   | succ t =>
    obtain ⟨pre, p1, p2, p3⟩ := h3 t o (by simpa using ho)
    simp at p1 p2
    exact ⟨pre, by rw [p1]; omega, by rw [show acc.size + (t + 1) = acc.size + 1 + t from by omega]; exact p2, p3⟩
 have heq : Region.before ops = ops.toList.foldl (fun acc o => acc.push (g acc o)) #[] := by rw [Array.foldl_toList]; rfl
 obtain ⟨q1, _, q3⟩ := hfold ops.toList #[]
 rw [← heq] at q1 q3
 cases ho : ops[j]? with
 | none =>
  have : ops.size ≤ j := by simpa using ho
  have h0 : (Region.before ops).getD j 0 = 0 := by
   have : (Region.before ops)[j]? = none := Array.getElem?_eq_none (by rw [q1]; simpa using this)
   simp [Array.getD_eq_getD_getElem?, this]
  rw [h0] at h; simp at h
 | some o =>
  obtain ⟨pre, p1, p2, p3⟩ := q3 j o (by simpa using ho)
  simp at p1 p2
  have hv : (Region.before ops).getD j 0 = g pre o := by simp [Array.getD_eq_getD_getElem?, p2]
  rw [hv] at h
  obtain ⟨e, he, hb, hr⟩ := hg pre o m h
  refine ⟨o, rfl, e, he, hb, ?_⟩
  rcases hr with hr | hr
  · exact .inl hr
  · by_cases hlt : e.on < j
    · refine .inr ⟨hlt, ?_⟩
      have := p3 e.on (by omega)
      rw [Array.getD_eq_getD_getElem?, this, ← Array.getD_eq_getD_getElem?]; exact hr
    · have : pre.getD e.on 0 = 0 := by simp [Array.getD_eq_getD_getElem?, Array.getElem?_eq_none (show pre.size ≤ e.on by omega)]
      rw [this] at hr; simp at hr
def Closed (ops : Array Oper) (listed : Array Bool) : Prop := ∀ j o, ops[j]? = some o → listed.getD j false = true → ∀ e ∈ o.after, Region.binds .any e = true → listed.getD e.on false = true
theorem vR {ops : Array Oper} {listed : Array Bool} (hc : Closed ops listed) : ∀ (j : Nat) {m : Nat}, (∀ o, ops[j]? = some o → ∀ e ∈ o.after, Region.binds .any e = true → listed.getD e.on false = true) → ((Region.before ops).getD j 0).testBit m = true → listed.getD m false = true := by
 intro j
 induction j using Nat.strongRecOn with
 | _ j ih =>
  intro m hp hb
  obtain ⟨o, ho, e, he, hbi, hr⟩ := aFP hb
  have hl := hp o ho e he hbi
  rcases hr with rfl | ⟨hlt, hr⟩
  · exact hl
  · exact ih e.on hlt (fun o' ho' e' he' hb' => hc e.on o' ho' hl e' he' hb') hr
theorem vP {ops : Array Oper} {listed : Array Bool} (hc : Closed ops listed) {i j : Nat} (hi : i ∈ Region.ready .any ops listed) (hj : j ∈ Region.ready .any ops listed) (ht : tied ops i = true) : j = i := by
 apply Classical.byContradiction
 intro hne
 obtain ⟨ui, oi, hoi, pi⟩ := mem_ready.1 hi
 obtain ⟨uj, oj, hoj, pj⟩ := mem_ready.1 hj
 have hjl : j < ops.size := (Array.getElem?_eq_some_iff.1 hoj).1
 unfold tied at ht
 have := List.all_eq_true.1 ht j (List.mem_range.2 hjl)
 simp only [xY hne, Bool.false_or] at this
 have unl : ∀ {k : Nat}, listed.getD k true = false → listed.getD k false = true → False := fun {k} h1 h2 => by
  rcases Nat.lt_or_ge k listed.size with h' | h'
  · simp [h'] at h1 h2; rw [h1] at h2; cases h2
  · simp [Array.getElem?_eq_none h'] at h1
 cases hb : Nat.blt j i with
 | true =>
  rw [hb] at this
  exact unl uj (vR hc i (fun o ho e he hbi => by rw [hoi] at ho; cases ho; exact pi e he hbi) (by simpa using this))
 | false =>
  rw [hb] at this
  exact unl ui (vR hc j (fun o ho e he hbi => by rw [hoj] at ho; cases ho; exact pj e he hbi) (by simpa using this))
theorem zw {ops : Array Oper} {listed : Array Bool} (hc : Closed ops listed) {i j : Nat} (hi : i ∈ Region.ready .any ops listed) (hj : j ∈ Region.ready .any ops listed) : zi ops j i = false := by
 obtain ⟨ui, oi, hoi, pi⟩ := mem_ready.1 hi
 obtain ⟨uj, oj, hoj, pj⟩ := mem_ready.1 hj
 have unl : ∀ {k : Nat}, listed.getD k true = false → listed.getD k false = true → False := fun {k} h1 h2 => by
  rcases Nat.lt_or_ge k listed.size with h' | h'
  · simp [h'] at h1 h2; rw [h1] at h2; cases h2
  · simp [Array.getElem?_eq_none h'] at h1
 unfold zi
 cases hb : Nat.blt j i with
 | true =>
  cases h : ((Region.before ops).getD i 0).testBit j with
  | false => simp only [h, cond_true]
  | true => exact (unl uj (vR hc i (fun o ho e he hbi => by rw [hoi] at ho; cases ho; exact pi e he hbi) h)).elim
 | false =>
  cases h : ((Region.before ops).getD j 0).testBit i with
  | false => simp only [h, cond_false]
  | true => exact (unl ui (vR hc j (fun o ho e he hbi => by rw [hoj] at ho; cases ho; exact pj e he hbi) h)).elim
theorem vF {ops : Array Oper} {listed : Array Bool} (hc : Closed ops listed) {j m : Nat} (hj : j ∈ Region.ready .any ops listed) (h : ((Region.before ops).getD j 0).testBit m = true) : listed.getD m false = true := by
 obtain ⟨uj, oj, hoj, pj⟩ := mem_ready.1 hj
 exact vR hc j (fun o ho e he hbi => by rw [hoj] at ho; cases ho; exact pj e he hbi) h
theorem jL {ops : Array Oper} {listed : Array Bool} {j : Nat} (hj : j ∈ Region.ready .any ops listed) : listed.getD j false = false := by
 obtain ⟨uj, _⟩ := mem_ready.1 hj
 rcases Nat.lt_or_ge j listed.size with h' | h'
 · simp [h'] at uj ⊢; exact uj
 · simp [Array.getElem?_eq_none h'] at uj
theorem aDa {Θ : Tab} {ops : Array Oper} {two : Bool} {k j : Nat} {oj : Oper} (hs : soft Θ ops two k = true) (hj : ops[j]? = some oj) (hne : j ≠ k) (ho : zi ops j k = false) :
 (calm Θ two oj = true ∧ ∀ t, t ∈ tmpsOf oj → ∀ j' o', ops[j']? = some o' → o'.dst = some t → j' ≠ j ∧ ((Region.before ops).getD j 0).testBit j' = true) ∧
 (vJ oj = true ∨ ∀ d, oj.dst = some d → ∀ j2 o2, ops[j2]? = some o2 → j2 ≠ k → zi ops j2 k = false → d ∉ tmpsOf o2) := by
 unfold soft at hs
 simp only [Bool.and_eq_true] at hs
 have hjl : j < ops.size := (Array.getElem?_eq_some_iff.1 hj).1
 have := List.all_eq_true.1 hs.2 j (List.mem_range.2 hjl)
 simp only [xY hne, ho, Bool.false_or, hj, Bool.and_eq_true] at this
 refine ⟨⟨this.1.1, fun t ht j' o' ho' hd' => ?_⟩, ?_⟩
 · have h2 := List.all_eq_true.1 (List.all_eq_true.1 this.1.2 t ht) j' (List.mem_range.2 (Array.getElem?_eq_some_iff.1 ho').1)
   simp only [ho', Option.bind_some, hd', Nat.beq_refl, Bool.not_true, Bool.false_or, Bool.and_eq_true, Bool.not_eq_true'] at h2
   exact ⟨fun e => by rw [e] at h2; simp at h2, h2.2⟩
 · cases hc1 : vJ oj with
   | true => exact .inl rfl
   | false =>
    refine .inr fun d hd j2 o2 h2 hne2 ho2 hm => ?_
    have h3 := this.2
    rw [hc1, Bool.false_or] at h3
    have h4 := List.all_eq_true.1 h3 j2 (List.mem_range.2 (Array.getElem?_eq_some_iff.1 h2).1)
    simp only [xY hne2, ho2, Bool.false_or, h2, hd, Bool.not_eq_true'] at h4
    rw [List.contains_iff_mem.2 hm] at h4; cases h4
theorem aIH {Θ : Tab} {ops : Array Oper} {two : Bool} {k : Nat} {o : Oper} (hs : soft Θ ops two k = true) (hk : ops[k]? = some o) : calm Θ true o = false := by
 unfold soft at hs
 simp only [Bool.and_eq_true, hk, Bool.not_eq_true'] at hs
 exact hs.1
theorem aHS {Θ : Tab} {two : Bool} {o : Oper} (h : calm Θ two o = true) : calm Θ true o = true := by
 unfold calm at h ⊢
 cases h1 : vJ o with
 | true => rfl
 | false => rw [h1] at h; simp only [Bool.false_or, Bool.and_eq_true] at h ⊢; exact ⟨trivial, h.2⟩
theorem aCG {Θ : Tab} {two : Bool} {o : Oper} (h : calm Θ two o = true) : o.guard = none := by
 unfold calm vJ aGT at h
 cases hg : o.guard with
 | none => rfl
 | some q => rw [hg] at h; simp at h
theorem aCg {ops : Array Oper} {o : Oper} {t : Tmp} (h : t ∈ tmpsOf o) : t ∈ o.looksAt ops := List.mem_append_left _ h
theorem uE {o : Oper} {t : Tmp} (h : Operand.tmp t ∈ o.op.operands) : t ∈ tmpsOf o := List.mem_filterMap.2 ⟨.tmp t, by simpa using h, rfl⟩
section
variable {P : Program} {Θ : Tab} {s s' : St}
theorem ko {two : Bool} {o : Oper} {v : AV} (hc : calm Θ two o = true) (hev : ∀ x ∈ o.op.operands, s'.ev x = s.ev x) (hhp : two = true → ∀ l, (∃ x ∈ o.op.operands, (s.ev x).names l = true) → s'.hp l = s.hp l) (h : Pre P Θ o s ⟨v, none⟩) : Pre P Θ o s' ⟨v, none⟩ := by
 obtain ⟨dst, op, ty, pos, after, guard⟩ := o
 cases op <;> simp only [Op.operands] at hev hhp <;> first
  | (exfalso; revert hc; cases two <;> simp [calm, vJ, aGT]; done)
  | skip
 case move x =>
  have e1 := hev x (by simp)
  simp only [Pre] at h ⊢
  obtain ⟨h1, h2 | ⟨l, ob, _, _, _, _, h2⟩ | ⟨d, el, sz, _, _, _, _, _, h2⟩ | ⟨l, L, ob, _, _, _, _, _, _, h2⟩⟩ := h
  · exact ⟨h1, .inl (by rw [e1]; exact h2)⟩
  · cases h2
  · cases h2
  · cases h2
 case assign x =>
  have e1 := hev x (by simp)
  simp only [Pre] at h ⊢
  obtain ⟨h1, h2 | ⟨l, ob, _, _, _, _, h2⟩ | ⟨d, el, sz, _, _, _, _, _, h2⟩ | ⟨l, L, ob, _, _, _, _, _, _, h2⟩⟩ := h
  · exact ⟨h1, .inl (by rw [e1]; exact h2)⟩
  · cases h2
  · cases h2
  · cases h2
 case pick c a b =>
  have e1 := hev c (by simp)
  have e2 := hev a (by simp)
  have e3 := hev b (by simp)
  simp only [Pre] at h ⊢
  rw [e1, e2, e3]; exact h
 case nilCheck x =>
  have e1 := hev x (by simp)
  simp only [Pre] at h ⊢
  rw [e1]; exact h
 case fieldAddr t x f =>
  have e1 := hev x (by simp)
  simp only [Pre] at h ⊢
  rw [e1]; exact h
 case extract x i =>
  have e1 := hev x (by simp)
  simp only [Pre] at h ⊢
  rw [e1]; exact h
 case binOp op t x y t2 =>
  have e1 := hev x (by simp)
  have e2 := hev y (by simp)
  simp only [Pre] at h ⊢
  rw [e1, e2]; exact h
 case indexAddr t x ix =>
  have htwo : two = true := by cases two with | true => rfl | false => simp [calm, vJ] at hc
  have e1 := hev x (by simp)
  have e2 := hev ix (by simp)
  simp only [Pre] at h ⊢
  rw [e1, e2]
  obtain ⟨k, j, hi, ⟨el, sz, b, z, ht, h | ⟨l, ob, hx, ho, h⟩⟩ | h⟩ := h
  · exact ⟨k, j, hi, .inl ⟨el, sz, b, z, ht, .inl h⟩⟩
  · exact ⟨k, j, hi, .inl ⟨el, sz, b, z, ht, .inr ⟨l, ob, hx, by rw [hhp htwo l ⟨x, by simp, by rw [hx]; simp [AV.names]⟩]; exact ho, h⟩⟩⟩
  · exact ⟨k, j, hi, .inr h⟩
 case load t x =>
  have htwo : two = true := by cases two with | true => rfl | false => simp [calm, vJ] at hc
  have e1 := hev x (by simp)
  simp only [Pre] at h ⊢
  rw [e1]
  obtain ⟨hk, h | ⟨l, i, p, c, ob, hx, ho, h⟩⟩ := h
  · exact ⟨hk, .inl h⟩
  · refine ⟨hk, .inr ⟨l, i, p, c, ob, hx, by rw [hhp htwo l ⟨x, by simp, by rw [hx]; simp [AV.names]⟩]; exact ho, ?_⟩⟩
    rcases h with h | ⟨t', y, z, ho1, hg, h | ⟨d, el, sz, b, z0, ek, _, _, _, _, _, h⟩ | ⟨d, sz', xs', el, sz, b, z0, _, _, _, _, _, h⟩⟩
    · exact .inl h
    · exact .inr ⟨t', y, z, ho1, hg, .inl h⟩
    · cases h
    · cases h
theorem aCZ {l : Nat} : ∀ (xs : List AV) (i : Nat) {y : AV}, xs[i]? = some y → y.names l = true → (AV.tup xs).names l = true
 | [], i, y, h, _ => by simp at h
 | x :: xs, 0, y, h, hn => by simp at h; subst h; simp [AV.names, xI, hn]
 | x :: xs, i + 1, y, h, hn => by
  have := aCZ xs i (by simpa using h) hn
  simp only [AV.names] at this
  simp [AV.names, xI, this]
theorem jM {o : Oper} {v : AV} (hc : vJ o = true) (h : Pre P Θ o s ⟨v, none⟩) (l : Nat) (hl : v.names l = true) : ∃ t, t ∈ tmpsOf o ∧ (s.sl t).names l = true := by
 have key : ∀ x : Operand, x ∈ o.op.operands → (s.ev x).names l = true → ∃ t, t ∈ tmpsOf o ∧ (s.sl t).names l = true := fun x hx hn => by
  cases x with
  | tmp t => exact ⟨t, uE hx, hn⟩
  | global g => simp [St.ev, kC] at hn
  | _ => simp [St.ev, AV.names, xI] at hn
 obtain ⟨dst, op, ty, pos, after, guard⟩ := o
 cases op <;> first
  | (exfalso; revert hc; simp [vJ]; done)
  | skip
 case move x =>
  simp only [Pre] at h
  obtain ⟨h1, h2 | ⟨l, ob, _, _, _, _, h2⟩ | ⟨d, el, sz, _, _, _, _, _, h2⟩ | ⟨l, L, ob, _, _, _, _, _, _, h2⟩⟩ := h
  · exact key x (by simp [Op.operands]) (by cases h2; exact hl)
  · cases h2
  · cases h2
  · cases h2
 case assign x =>
  simp only [Pre] at h
  obtain ⟨h1, h2 | ⟨l, ob, _, _, _, _, h2⟩ | ⟨d, el, sz, _, _, _, _, _, h2⟩ | ⟨l, L, ob, _, _, _, _, _, _, h2⟩⟩ := h
  · exact key x (by simp [Op.operands]) (by cases h2; exact hl)
  · cases h2
  · cases h2
  · cases h2
 case pick c a b =>
  simp only [Pre] at h
  obtain ⟨_, _, t, _, he⟩ := h
  cases he
  cases t with
  | true => exact key a (by simp [Op.operands]) hl
  | false => exact key b (by simp [Op.operands]) hl
 case nilCheck x =>
  simp only [Pre] at h
  exact key x (by simp [Op.operands]) (by have := h.1; cases this; exact hl)
 case fieldAddr t x f =>
  simp only [Pre] at h
  obtain ⟨fs, z, o_, z_, _, _, ⟨ys, y, _, _, _, he⟩ | ⟨l', i, p, c, hx, he⟩⟩ := h
  · cases he; simp [AV.names] at hl
  · cases he
    exact key x (by simp [Op.operands]) (by rw [hx]; simpa [AV.names] using hl)
 case extract x i =>
  simp only [Pre] at h
  obtain ⟨xs, y, hx, hy, he⟩ := h
  cases he
  exact key x (by simp [Op.operands]) (by rw [hx]; exact aCZ xs i hy hl)
 case binOp op t x y t2 =>
  simp only [Pre] at h
  rcases h with ⟨a, b, r, _, _, _, _, he⟩ | ⟨r, _, _, _, _, he⟩ <;> (cases he; simp [AV.names] at hl)
end
theorem Closed.list {ops : Array Oper} {listed : Array Bool} (hc : Closed ops listed) {i : Nat} (hi : i ∈ Region.ready .any ops listed) : Closed ops (listed.setIfInBounds i true) := by
 intro j o ho hl e he hb
 obtain ⟨ui, oi, hoi, pi⟩ := mem_ready.1 hi
 by_cases hji : j = i
 · subst hji
   rw [hoi] at ho; cases ho
   exact getD_set_true (pi e he hb)
 · rw [getD_set_ne false (Ne.symm hji)] at hl
   exact getD_set_true (hc j o ho hl e he hb)
section
variable {P : Program} {Θ : Tab} {n : Nat} {ops : Array Oper} {s : St}
def aOp (P : Program) (Θ : Tab) (n : Nat) (ops : Array Oper) (L : Array Bool) (i : Nat) (K : St → Prop) (s : St) : Prop :=
 match ops[i]? with
 | none => K s
 | some o => inN n o.dst = true ∧ match xh ops s o with
  | some true => ∃ e, Pre P Θ o s e ∧ (e.upd = none ∨ tied ops i = true ∨ ve Θ ops (fun j => L.getD j false) i s e) ∧ (K (s.app o.dst e) ∨ (tied ops i = true ∧ Gh K (s.app o.dst e)))
  | some false => K (s.put o.dst (.tup []))
  | none => False
theorem Gh.mono {K K' : St → Prop} (hk : ∀ s, K s → K' s) {s : St} (h : Gh K s) : Gh K' s := by
 induction h with
 | done h => exact .done (hk _ h)
 | opn l i h1 h2 _ ih => exact .opn l i h1 h2 ih
 | shut l h1 h2 _ ih => exact .shut l h1 h2 ih
 | fold l l' p h1 h2 h3 h4 h5 h6 _ ih => exact .fold l l' p h1 h2 h3 h4 h5 h6 ih
 | foldr l l' p h1 h2 h3 h4 h5 h6 _ ih => exact .foldr l l' p h1 h2 h3 h4 h5 h6 ih
 | shuts l h1 h2 _ ih => exact .shuts l h1 h2 ih
 | unfold l i L p h1 h2 h3 h4 h5 _ ih => exact .unfold l i L p h1 h2 h3 h4 h5 ih
 | nilx l i L p ek sz' h1 h2 h3 h4 h5 h6 h7 _ ih => exact .nilx l i L p ek sz' h1 h2 h3 h4 h5 h6 h7 ih
 | frz l h1 _ ih => exact .frz l h1 ih
 | drop l h1 _ ih => exact .drop l h1 ih
 | give l h1 h2 h3 _ ih => exact .give l h1 h2 h3 ih
 | z2d l h1 _ ih => exact .z2d l h1 ih
 | s2d l h1 h2 _ ih => exact .s2d l h1 h2 ih
 | d2s l h1 h2 _ ih => exact .d2s l h1 h2 ih
 | s2p l h1 _ ih => exact .s2p l h1 ih
 | p2d l h1 h2 _ ih => exact .p2d l h1 h2 ih
def aAF (P : Program) (Θ : Tab) (n : Nat) (ops : Array Oper) (K : St → Prop) : Nat → Array Bool → St → Prop
 | 0, listed, s => Region.ready .any ops listed = [] ∧ K s
 | fuel + 1, listed, s => (Region.ready .any ops listed = [] → K s) ∧ ∀ i ∈ Region.ready .any ops listed, aOp P Θ n ops listed i (aAF P Θ n ops K fuel (listed.setIfInBounds i true)) s
theorem aAM {d : Option Tmp} {v : AV} {o : Oper} (h : ∀ t, d = some t → t ∉ o.looksAt ops) : xh ops (s.put d v) o = xh ops s o := by
 unfold xh
 cases hg : o.guard with
 | none => rfl
 | some q =>
  obtain ⟨j, want⟩ := q
  cases hd : (ops[j]?).bind (·.dst) with
  | none => simp only [hd]
  | some t =>
   have : (s.put d v).sl t = s.sl t := by
    cases d with
    | none => rfl
    | some d =>
     have hne : t ≠ d := fun e => h d rfl (by subst e; simp [Oper.looksAt, hg, hd])
     show (bif Nat.beq t d then v else s.sl t) = s.sl t
     rw [xY hne]; rfl
   simp only [hd, this]
theorem aBR {d : Option Tmp} {v : AV} {o : Oper} {e : Eff} (h : ∀ t, d = some t → t ∉ o.looksAt ops) : Pre P Θ o (s.put d v) e ↔ Pre P Θ o s e := by
 have hev : ∀ x ∈ o.op.operands, (s.put d v).ev x = s.ev x := fun x hx => aK0 fun t ht hxt => h t ht (by
  subst hxt
  exact List.mem_append_left _ (List.mem_filterMap.2 ⟨.tmp t, by simpa using hx, rfl⟩))
 exact ⟨aDH jm aAv hev, aDH jm.symm aAv.symm (fun x hx => (hev x hx).symm)⟩
def wY (P : Program) (Θ : Tab) (n : Nat) (ops : Array Oper) (o : Oper) (s : St) (v : AV) : Prop :=
 inN n o.dst = true ∧ ((xh ops s o = some true ∧ Pre P Θ o s ⟨v, none⟩) ∨ (xh ops s o = some false ∧ v = .tup []))
theorem wY.op {L : Array Bool} {i : Nat} {o : Oper} {v : AV} (hi : ops[i]? = some o) (hy : wY P Θ n ops o s v) {K : St → Prop} (hk : K (s.put o.dst v)) : aOp P Θ n ops L i K s := by
 unfold aOp
 simp only [hi]
 refine ⟨hy.1, ?_⟩
 rcases hy.2 with ⟨hg, hp⟩ | ⟨hg, rfl⟩
 · simp only [hg]; exact ⟨_, hp, .inl rfl, .inl hk⟩
 · simp only [hg]; exact hk
theorem wY.put {o : Oper} {v u : AV} {d : Option Tmp} (h : ∀ t, d = some t → t ∉ o.looksAt ops) (hy : wY P Θ n ops o s v) : wY P Θ n ops o (s.put d u) v := by
 refine ⟨hy.1, ?_⟩
 rw [aAM h, aBR h]; exact hy.2
theorem wS {f : St → St} {u : AV} {d : Option Tmp} : s.app d ⟨u, some f⟩ = (f s).put d u := rfl
theorem aIG {listed : Array Bool} {i j : Nat} {oi oj : Oper} {v : AV} {e : Eff} (hcl : Closed ops listed) (hi : ops[i]? = some oi) (hoj : ops[j]? = some oj) (hji : j ≠ i) (hr : i ∈ Region.ready .any ops listed) (hj : j ∈ Region.ready .any ops listed)
 (a1 : ∀ d, oi.dst = some d → d ∉ oj.looksAt ops) (a2 : ∀ d, oi.dst = some d → oj.dst ≠ some d) (a3 : ∀ d, oj.dst = some d → d ∉ oi.looksAt ops) (hy : wY P Θ n ops oi s v)
 (hu : ve Θ ops (fun m => (listed.setIfInBounds i true).getD m false) j (s.put oi.dst v) e) :
 ve Θ ops (fun m => listed.getD m false) j s e ∧ wY P Θ n ops oi (s.app oj.dst e) v ∧ (s.put oi.dst v).app oj.dst e = (s.app oj.dst e).put oi.dst v := by
 obtain ⟨two, ls, f, g, H, M, hup, hsoft, hf, hg, htwo, hcond⟩ := hu
 obtain ⟨⟨hci, hprod⟩, _⟩ := aDa hsoft hi (Ne.symm hji) (zw hcl hj hr)
 have hslot : ∀ t, oi.dst ≠ some t → (s.put oi.dst v).sl t = s.sl t := fun t ht => by
  cases hd : oi.dst with
  | none => rfl
  | some d =>
   have hne : t ≠ d := fun e => ht (by rw [hd, e])
   show (bif Nat.beq t d then v else s.sl t) = s.sl t
   rw [xY hne]; rfl
 have hfix : ∀ t, t ∈ tmpsOf oi → ∀ l ∈ ls, (s.sl t).names l = false := fun t ht l hl => by
  have h1 := hcond i oi hi (Ne.symm hji) (zw hcl hj hr) t ht (fun j' o' ho' hd' => getD_set_true (vF hcl hr (hprod t ht j' o' ho' hd').2)) l hl
  rw [hslot t (fun e => (hprod t ht i oi hi e).1 rfl)] at h1
  exact h1
 have hgd := aCG hci
 have hpi : Pre P Θ oi s ⟨v, none⟩ := by
  rcases hy.2 with ⟨_, h⟩ | ⟨h, _⟩
  · exact h
  · unfold xh at h; rw [hgd] at h; cases h
 have hgv : g v = v := by
  cases two with
  | true => exact (htwo rfl).1 v
  | false =>
   refine hg v fun l hl => ?_
   cases hn : v.names l with
   | false => rfl
   | true =>
    obtain ⟨t, ht, hn'⟩ := jM (by simpa [calm] using hci) hpi l hn
    rw [hfix t ht l hl] at hn'; cases hn'
 have hsl : ∀ t, t ∈ tmpsOf oi → (s.app oj.dst e).sl t = s.sl t := fun t ht => by
  obtain ⟨u, up⟩ := e
  simp only at hup
  subst hup
  rw [wS, hf]
  have h0 : g (s.sl t) = s.sl t := hg _ (hfix t ht)
  cases hd : oj.dst with
  | none => exact h0
  | some d =>
   have hne : t ≠ d := fun e => a3 d hd (by rw [← e]; exact aCg ht)
   show (bif Nat.beq t d then u else g (s.sl t)) = s.sl t
   rw [xY hne]; exact h0
 have hhp : two = true → ∀ l, (∃ x ∈ oi.op.operands, (s.ev x).names l = true) → (s.app oj.dst e).hp l = s.hp l := fun h2 l ⟨x, hx, hn⟩ => by
  obtain ⟨u, up⟩ := e
  simp only at hup
  subst hup
  rw [wS, jm, hf]
  refine (htwo h2).2 _ l fun hl => ?_
  cases x with
  | tmp t => have := hfix t (uE hx) l hl; rw [show (s.ev (.tmp t)) = s.sl t from rfl, this] at hn; cases hn
  | global g => simp [St.ev, kC] at hn
  | _ => simp [St.ev, AV.names, xI] at hn
 refine ⟨⟨two, ls, f, g, H, M, hup, hsoft, hf, hg, htwo, fun j' o' ho' hne' hord t ht hL l hl => ?_⟩, ⟨hy.1, .inl ⟨by unfold xh; rw [hgd], ko hci (fun x hx => ?_) hhp hpi⟩⟩, ?_⟩
 · have h1 := hcond j' o' ho' hne' hord t ht (fun j2 o2 h2 d2 => getD_set_true (hL j2 o2 h2 d2)) l hl
   rw [hslot t (fun e => by have : listed.getD i false = true := hL i oi hi e; rw [jL hr] at this; cases this)] at h1
   exact h1
 · cases x with
   | tmp t => exact hsl t (uE hx)
   | _ => rfl
 · obtain ⟨u, up⟩ := e
   simp only at hup
   subst hup
   rw [wS, wS]
   have : f (s.put oi.dst v) = (f s).put oi.dst v := by
    rw [hf, hf, jm, aAv]
    cases hd : oi.dst with
    | none => rfl
    | some d =>
     show St.mk _ _ _ = St.mk _ _ _
     congr 1
     funext m
     show g (bif Nat.beq m d then v else s.sl m) = (bif Nat.beq m d then v else g (s.sl m))
     cases Nat.beq m d with
     | true => exact hgv
     | false => rfl
   rw [this]
   exact (put_comm (f s) u v (fun d h1 h2 => a2 d h2 h1)).symm
theorem aBv {K : St → Prop} {i : Nat} {oi : Oper} {v : AV} (hi : ops[i]? = some oi) : ∀ (fuel : Nat) (listed : Array Bool) (s : St),
 Closed ops listed → (∀ j oj, ops[j]? = some oj → j ≠ i → listed.getD j true = false → (∀ e ∈ oj.after, Region.binds .any e = true → e.on ≠ i) → oi.apart ops oj = true) →
 i ∈ Region.ready .any ops listed → wY P Θ n ops oi s v → aAF P Θ n ops K fuel (listed.setIfInBounds i true) (s.put oi.dst v) → aAF P Θ n ops K (fuel + 1) listed s := by
 intro fuel
 induction fuel with
 | zero =>
  intro listed s hcl _ hr hy H
  refine ⟨fun h => (by rw [h] at hr; cases hr), fun j hj => ?_⟩
  by_cases hji : j = i
  · subst hji; exact hy.op hi H
  · have := ready_mono hj hji
    rw [H.1] at this
    cases this
 | succ fuel ih =>
  intro listed s hcl hfree hr hy H
  refine ⟨fun h => (by rw [h] at hr; cases hr), fun j hj => ?_⟩
  by_cases hji : j = i
  · subst hji; exact hy.op hi H
  · have h1 := H.2 j (ready_mono hj hji)
    obtain ⟨hjun, oj, hoj, hall⟩ := mem_ready.1 hj
    have hnot : ∀ e ∈ oj.after, Region.binds .any e = true → e.on ≠ i := fun e he hb heq => by
     have h1 := hall e he hb
     have h0 := (mem_ready.1 hr).1
     rw [heq] at h1
     rcases Nat.lt_or_ge i listed.size with h' | h'
     · simp [h'] at h0 h1; rw [h0] at h1; cases h1
     · simp [Array.getElem?_eq_none h'] at h1
    obtain ⟨a1, a2, a3⟩ := Oper.apart_spec (hfree j oj hoj hji hjun hnot)
    have hfree' : ∀ k ok, ops[k]? = some ok → k ≠ i → (listed.setIfInBounds j true).getD k true = false →
     (∀ e ∈ ok.after, Region.binds .any e = true → e.on ≠ i) → oi.apart ops ok = true := fun k ok hk hki hun hno => by
     refine hfree k ok hk hki ?_ hno
     by_cases hjk : j = k
     · subst hjk; exact hjun
     · rw [getD_set_ne true hjk] at hun; exact hun
    have hcomm : (listed.setIfInBounds i true).setIfInBounds j true = (listed.setIfInBounds j true).setIfInBounds i true := Array.setIfInBounds_comm _ _ (Ne.symm hji)
    unfold aOp at h1 ⊢
    simp only [hoj] at h1 ⊢
    refine ⟨h1.1, ?_⟩
    have h2 := h1.2
    rw [aAM a1] at h2
    cases hg : xh ops s oj with
    | none => rw [hg] at h2; exact h2.elim
    | some b =>
     cases b with
     | true =>
      rw [hg] at h2
      obtain ⟨e, hp, hu, hk⟩ := h2
      rcases hk with hk | ⟨ht, _⟩
      case inr => exact absurd (vP hcl hj hr ht) (Ne.symm hji)
      rcases hu with hu | hu | hu
      · obtain ⟨u, up⟩ := e
        simp only at hu
        subst hu
        refine ⟨⟨u, none⟩, (aBR a1).1 hp, .inl rfl, .inl ?_⟩
        refine ih (listed.setIfInBounds j true) (s.put oj.dst u) (hcl.list hj) hfree' (ready_mono hr (Ne.symm hji)) (hy.put a3) ?_
        rw [← hcomm, put_comm s u v (fun d h1 h2 => a2 d h2 h1)]
        exact hk
      · exact absurd (vP hcl hj hr hu) (Ne.symm hji)
      · obtain ⟨q1, q2, q3⟩ := aIG hcl hi hoj hji hr hj a1 a2 a3 hy hu
        refine ⟨e, (aBR a1).1 hp, .inr (.inr q1), .inl ?_⟩
        refine ih (listed.setIfInBounds j true) (s.app oj.dst e) (hcl.list hj) hfree' (ready_mono hr (Ne.symm hji)) q2 ?_
        rw [← hcomm, ← q3]
        exact hk
     | false =>
      rw [hg] at h2
      refine ih (listed.setIfInBounds j true) (s.put oj.dst (.tup [])) (hcl.list hj) hfree' (ready_mono hr (Ne.symm hji)) (hy.put a3) ?_
      rw [← hcomm, put_comm s (.tup []) v (fun d h1 h2 => a2 d h2 h1)]
      exact h2
theorem aGz {K : St → Prop} {i : Nat} {oi : Oper} {e : Eff} (hi : ops[i]? = some oi) : ∀ (fuel : Nat) (listed : Array Bool) (s : St),
 Closed ops listed → (∀ j oj, ops[j]? = some oj → j ≠ i → listed.getD j true = false → (∀ e ∈ oj.after, Region.binds .any e = true → e.on ≠ i) → oi.apart ops oj = true) →
 i ∈ Region.ready .any ops listed → inN n oi.dst = true → xh ops s oi = some true → Pre P Θ oi s e → ve Θ ops (fun m => listed.getD m false) i s e → aAF P Θ n ops K fuel (listed.setIfInBounds i true) (s.app oi.dst e) → aAF P Θ n ops K (fuel + 1) listed s := by
 have self : ∀ (listed : Array Bool) (s : St) (K' : St → Prop), inN n oi.dst = true → xh ops s oi = some true → Pre P Θ oi s e → ve Θ ops (fun m => listed.getD m false) i s e → K' (s.app oi.dst e) → aOp P Θ n ops listed i K' s := fun listed s K' hin hgd hp hu hk => by
  unfold aOp
  simp only [hi, hgd]
  exact ⟨hin, e, hp, .inr (.inr hu), .inl hk⟩
 intro fuel
 induction fuel with
 | zero =>
  intro listed s hcl _ hr hin hgd hp hu H
  refine ⟨fun h => (by rw [h] at hr; cases hr), fun j hj => ?_⟩
  by_cases hji : j = i
  · subst hji; exact self _ _ _ hin hgd hp hu H
  · have := ready_mono hj hji
    rw [H.1] at this
    cases this
 | succ fuel ih =>
  intro listed s hcl hfree hr hin hgd hp hu H
  refine ⟨fun h => (by rw [h] at hr; cases hr), fun j hj => ?_⟩
  by_cases hji : j = i
  · subst hji; exact self _ _ _ hin hgd hp hu H
  · have h1 := H.2 j (ready_mono hj hji)
    obtain ⟨hjun, oj, hoj, hall⟩ := mem_ready.1 hj
    have hnot : ∀ e ∈ oj.after, Region.binds .any e = true → e.on ≠ i := fun e he hb heq => by
     have h1 := hall e he hb
     have h0 := (mem_ready.1 hr).1
     rw [heq] at h1
     rcases Nat.lt_or_ge i listed.size with h' | h'
     · simp [h'] at h0 h1; rw [h0] at h1; cases h1
     · simp [Array.getElem?_eq_none h'] at h1
    obtain ⟨a1, a2, a3⟩ := Oper.apart_spec (hfree j oj hoj hji hjun hnot)
    have hfree' : ∀ k ok, ops[k]? = some ok → k ≠ i → (listed.setIfInBounds j true).getD k true = false →
     (∀ e ∈ ok.after, Region.binds .any e = true → e.on ≠ i) → oi.apart ops ok = true := fun k ok hk hki hun hno => by
     refine hfree k ok hk hki ?_ hno
     by_cases hjk : j = k
     · subst hjk; exact hjun
     · rw [getD_set_ne true hjk] at hun; exact hun
    have hcomm : (listed.setIfInBounds i true).setIfInBounds j true = (listed.setIfInBounds j true).setIfInBounds i true := Array.setIfInBounds_comm _ _ (Ne.symm hji)
    obtain ⟨two, ls, f, g, H', M, hup, hsoft, hf, hg, htwo, hcond⟩ := id hu
    obtain ⟨⟨hcj, hprod⟩, hdst⟩ := aDa hsoft hoj hji (zw hcl hr hj)
    have hgj := aCG hcj
    have hgs : ∀ s : St, xh ops s oj = some true := fun s => by unfold xh; rw [hgj]
    unfold aOp at h1 ⊢
    simp only [hoj, hgs] at h1 ⊢
    refine ⟨h1.1, ?_⟩
    obtain ⟨e', hp', hu', hk⟩ := h1.2
    rcases hk with hk | ⟨ht, _⟩
    case inr => exact absurd (vP hcl hj hr ht) (Ne.symm hji)
    have hnone : e'.upd = none := by
     rcases hu' with h | h | ⟨two', _, _, _, _, _, _, hs', _⟩
     · exact h
     · exact absurd (vP hcl hj hr h) (Ne.symm hji)
     · have := aIH hs' hoj; rw [aHS hcj] at this; cases this
    obtain ⟨u, up⟩ := e'
    simp only at hnone
    subst hnone
    obtain ⟨u0, up0⟩ := e
    simp only at hup
    subst hup
    have hfix : ∀ t, t ∈ tmpsOf oj → ∀ l ∈ ls, (s.sl t).names l = false := fun t ht l hl =>
     hcond j oj hoj hji (zw hcl hr hj) t ht (fun j' o' ho' hd' => vF hcl hj (hprod t ht j' o' ho' hd').2) l hl
    have hsl : ∀ t, t ∈ tmpsOf oj → (s.app oi.dst ⟨u0, some f⟩).sl t = s.sl t := fun t ht => by
     rw [wS, hf]
     have h0 : g (s.sl t) = s.sl t := hg _ (hfix t ht)
     cases hd : oi.dst with
     | none => exact h0
     | some d =>
      have hne : t ≠ d := fun e => a1 d hd (by rw [← e]; exact aCg ht)
      show (bif Nat.beq t d then u0 else g (s.sl t)) = s.sl t
      rw [xY hne]; exact h0
    have hev : ∀ x ∈ oj.op.operands, s.ev x = (s.app oi.dst ⟨u0, some f⟩).ev x := fun x hx => by
     cases x with
     | tmp t => exact (hsl t (uE hx)).symm
     | _ => rfl
    have hpj : Pre P Θ oj s ⟨u, none⟩ := ko hcj hev (fun h2 l ⟨x, hx, hn⟩ => by
     rw [wS, jm, hf]
     rw [← hev x hx] at hn
     refine ((htwo h2).2 _ l fun hl => ?_).symm
     cases x with
     | tmp t => have := hfix t (uE hx) l hl; rw [show (s.ev (.tmp t)) = s.sl t from rfl, this] at hn; cases hn
     | global g => simp [St.ev, kC] at hn
     | _ => simp [St.ev, AV.names, xI] at hn) hp'
    have hgu : g u = u := by
     cases two with
     | true => exact (htwo rfl).1 u
     | false =>
      refine hg u fun l hl => ?_
      cases hn : u.names l with
      | false => rfl
      | true =>
       obtain ⟨t, ht, hn'⟩ := jM (by simpa [calm] using hcj) hpj l hn
       rw [hfix t ht l hl] at hn'; cases hn'
    have hfp : f (s.put oj.dst u) = (f s).put oj.dst u := by
     rw [hf, hf, jm, aAv]
     cases hd : oj.dst with
     | none => rfl
     | some d =>
      show St.mk _ _ _ = St.mk _ _ _
      congr 1
      funext m
      show g (bif Nat.beq m d then u else s.sl m) = (bif Nat.beq m d then u else g (s.sl m))
      cases Nat.beq m d with
      | true => exact hgu
      | false => rfl
    refine ⟨⟨u, none⟩, hpj, .inl rfl, .inl ?_⟩
    refine ih (listed.setIfInBounds j true) (s.put oj.dst u) (hcl.list hj) hfree' (ready_mono hr (Ne.symm hji)) hin (by rw [aAM a3]; exact hgd) ((aBR a3).2 hp) ⟨two, ls, f, g, H', M, rfl, hsoft, hf, hg, htwo, fun j' o' ho' hne' hord t ht hL l hl => ?_⟩ ?_
    · by_cases hd : oj.dst = some t
      · rw [hd]
        show (bif Nat.beq t t then u else s.sl t).names l = false
        rw [Nat.beq_refl]
        show u.names l = false
        cases hn : u.names l with
        | false => rfl
        | true =>
         rcases hdst with hc1 | hdst
         · obtain ⟨t', ht', hn'⟩ := jM hc1 hpj l hn
           rw [hfix t' ht' l hl] at hn'; cases hn'
         · exact absurd ht (hdst t hd j' o' ho' hne' hord)
      · have h0 : (s.put oj.dst u).sl t = s.sl t := by
         cases hd' : oj.dst with
         | none => rfl
         | some d =>
          have hne : t ≠ d := fun e => hd (by rw [hd', e])
          show (bif Nat.beq t d then u else s.sl t) = s.sl t
          rw [xY hne]; rfl
        rw [h0]
        refine hcond j' o' ho' hne' hord t ht (fun j2 o2 h2 d2 => ?_) l hl
        have h3 : (listed.setIfInBounds j true).getD j2 false = true := hL j2 o2 h2 d2
        show listed.getD j2 false = true
        by_cases hj2 : j = j2
        · subst hj2; rw [hoj] at h2; cases h2; exact absurd d2 hd
        · rw [getD_set_ne false hj2] at h3; exact h3
    · rw [← hcomm, wS, hfp, ← put_comm (f s) u0 u (fun d h1 h2 => a2 d h1 h2)]
      exact hk
theorem aBG (a b : Nat) : Nat.blt a b = decide (a < b) := by rw [Bool.eq_iff_iff]; simp [Nat.blt_eq]
theorem aDt {K : St → Prop} : ∀ (l : List Oper) (k : Nat) (listed : Array Bool) (s : St), Closed ops listed → (∀ m, listed.getD m false = Nat.blt m k) → (∀ j, l[j]? = ops[k + j]?) → Region.lexFrom .any ops l.length k listed = true → xJ P Θ n ops true k l s K → aAF P Θ n ops K l.length listed s
 | [], _, _, _, _, _, _, hB, h => ⟨by simpa [Region.lexFrom] using hB, h⟩
 | o :: l, k, listed, s, hcl, hls, hl, hB, h => by
  have h0 : ops[k]? = some o := by simpa using (hl 0).symm
  simp only [List.length_cons, Region.lexFrom, Bool.and_eq_true] at hB
  obtain ⟨⟨hr, hf⟩, hB'⟩ := hB
  have hr' : k ∈ Region.ready .any ops listed := by simpa using hr
  have hrest : ∀ s', xJ P Θ n ops true (k + 1) l s' K → aAF P Θ n ops K l.length (listed.setIfInBounds k true) s' := fun s' h' =>
   aDt l (k + 1) _ s' (hcl.list hr') (fun m => by
    have hsz : k < listed.size := by
     have := (mem_ready.1 hr').1
     rcases Nat.lt_or_ge k listed.size with h' | h'
     · exact h'
     · simp [Array.getElem?_eq_none h'] at this
    by_cases hmk : k = m
    · subst hmk
      have h1 : (listed.setIfInBounds k true).getD k false = true := by simp [hsz]
      rw [h1]; simp
    · rw [getD_set_ne false hmk, hls]
      rw [aBG, aBG, decide_eq_decide]; omega) (fun j => by have := hl (j + 1); simpa [Nat.add_assoc, Nat.add_comm 1 j] using this) hB' h'
  unfold xJ at h
  obtain ⟨hin, h⟩ := h
  cases hg : xh ops s o with
  | none => rw [hg] at h; exact h.elim
  | some b =>
   cases b with
   | true =>
    rw [hg] at h
    obtain ⟨e, hp, hu, hk⟩ := h
    have htied : tied ops k = true → aAF P Θ n ops K (l.length + 1) listed s := fun ht => by
     refine ⟨fun h => (by rw [h] at hr'; cases hr'), fun j hj => ?_⟩
     have := vP hcl hr' hj ht
     subst this
     unfold aOp
     simp only [h0, hg]
     exact ⟨hin, e, hp, .inr (.inl ht), hk.imp (hrest _) (fun h => ⟨h.1 rfl, h.2.mono hrest⟩)⟩
    rcases hk with hk' | hk'
    case inr => exact htied (hk'.1 rfl)
    rcases hu rfl with hu | hu | hu
    · obtain ⟨u, up⟩ := e
      simp only at hu
      subst hu
      exact aBv h0 l.length listed s hcl (Region.free_spec h0 hf) hr' ⟨hin, .inl ⟨hg, hp⟩⟩ (hrest _ hk')
    · exact htied hu
    · have hL : (fun m => listed.getD m false) = fun j => Nat.blt j k := funext hls
      exact aGz h0 l.length listed s hcl (Region.free_spec h0 hf) hr' hin hg hp (by rw [hL]; exact hu) (hrest _ hk')
   | false =>
    rw [hg] at h
    exact aBv h0 l.length listed s hcl (Region.free_spec h0 hf) hr' ⟨hin, .inr ⟨hg, rfl⟩⟩ (hrest _ h)
end
section
variable {P : Program} {Θ : Tab} {W : World} {M : Hand} {S0 : Nat → Prop} {n : Nat} {ops : Array Oper} {s : St} {a : Act} {w : World} {Q : Exit → Act → World → Prop}
theorem jl (hs : Sim W M S0 n s a w) {o : Oper} {b : Bool} (h : xh ops s o = some b) : Region.wanted o (yielded ops a.tmps) = b := by
 obtain ⟨_, _, S, B, V, _, h1⟩ := hs
 unfold xh at h
 unfold Region.wanted
 cases hg : o.guard with
 | none => rw [hg] at h; simpa using h
 | some q =>
  obtain ⟨j, want⟩ := q
  rw [hg] at h
  simp only at h ⊢
  cases hd : (ops[j]?).bind (·.dst) with
  | none => rw [hd] at h; cases h
  | some t =>
   rw [hd] at h
   simp only at h
   have ht := h1.sl t
   have hy : yielded ops a.tmps j = match a.tmps[t]? with | some (.bool b) => some b | _ => none := by unfold yielded; rw [hd]; rfl
   rw [hy]
   cases hx : s.sl t with
   | v x =>
    rw [hx] at h ht
    unfold RV at ht
    cases x <;> simp at h
    rename_i c
    cases hq : a.tmps[t]? with
    | none => simp [Array.getD_eq_getD_getElem?, hq, undef] at ht
    | some y =>
     simp [Array.getD_eq_getD_getElem?, hq] at ht
     rw [ht.1]; simp [← h]
   | tup ys =>
    rw [hx] at h ht
    unfold RV at ht
    cases ys with
    | nil =>
     simp at h
     subst h
     obtain ⟨us, e, hr⟩ := ht
     cases hq : a.tmps[t]? with
     | none => simp
     | some y =>
      simp [Array.getD_eq_getD_getElem?, hq] at e
      rw [e]; simp
    | cons _ _ => simp at h
   | _ => rw [hx] at h; simp at h
theorem aEy (hs : Sim W M S0 n s a w) {d : Option Tmp} (hin : inN n d = true) : Sim W M S0 n (s.put d (.tup [])) (a.put d undef) w := by
 obtain ⟨hn, hdf, S, B, V, T, h⟩ := hs
 refine Sim.put hn hdf h d ?_ hin
 unfold RV
 exact ⟨[], rfl, by unfold RVs; rfl⟩
theorem aGJ (hΘ : yP P Θ) {K : St → Prop} (hq : ∀ s a w, Sim W M S0 n s a w → K s → Q .normal a w) : ∀ (fuel : Nat) (listed : Array Bool) (s : St) (a : Act) (w : World), Sim W M S0 n s a w → aAF P Θ n ops K fuel listed s → wpAny P .any ops Q fuel listed a w := by
 intro fuel
 induction fuel with
 | zero => intro listed s a w hs h; exact ⟨h.1, hq s a w hs h.2⟩
 | succ fuel ih =>
  intro listed s a w hs h
  refine ⟨fun hr => hq s a w hs (h.1 hr), fun i hi => ?_⟩
  have h1 := h.2 i hi
  unfold aOp at h1
  unfold wpOp
  cases ho : ops[i]? with
  | none => simp only [ho] at h1 ⊢; exact ih _ _ _ _ hs h1
  | some o =>
   simp only [ho] at h1 ⊢
   obtain ⟨hin, h2⟩ := h1
   cases hg : xh ops s o with
   | none => rw [hg] at h2; exact h2.elim
   | some b =>
    rw [hg] at h2
    rw [jl hs hg]
    cases b with
    | true =>
     obtain ⟨e, hp, _, hk⟩ := h2
     rw [if_pos rfl]
     refine .inl (qQ hΘ hs hp hin fun a' w' hs' => ?_)
     rcases hk with hk | ⟨_, hk⟩
     · exact ih _ _ _ _ hs' hk
     · obtain ⟨s2, hk, hs2⟩ := aAm hk hs'
       exact ih _ _ _ _ hs2 hk
    | false =>
     rw [if_neg (by simp)]
     exact ih _ _ _ _ (aEy hs hin) h2
theorem jS (hΘ : yP P Θ) {K : St → Prop} (hq : ∀ s a w, Sim W M S0 n s a w → K s → Q .normal a w) : ∀ (l : List Oper) (k : Nat) (s : St) (a : Act) (w : World), Sim W M S0 n s a w → xJ P Θ n ops false k l s K → wpList P ops Q l a w
 | [], _, s, a, w, hs, h => hq s a w hs h
 | o :: l, k, s, a, w, hs, h => by
  unfold xJ at h
  obtain ⟨hin, h⟩ := h
  unfold wpList
  cases hg : xh ops s o with
  | none => rw [hg] at h; exact h.elim
  | some b =>
   rw [hg] at h
   rw [jl hs hg]
   cases b with
   | true =>
    obtain ⟨e, hp, _, hk⟩ := h
    rw [if_pos rfl]
    refine .inl (qQ hΘ hs hp hin fun a' w' hs' => ?_)
    rcases hk with hk | ⟨_, hk⟩
    · exact jS hΘ hq l (k + 1) _ _ _ hs' hk
    · obtain ⟨s2, hk, hs2⟩ := aAm hk hs'
      exact jS hΘ hq l (k + 1) _ _ _ hs2 hk
   | false =>
    rw [if_neg (by simp)]
    exact jS hΘ hq l (k + 1) _ _ _ (aEy hs hin) h
end
mutual
theorem aCQ (l m : Nat) : ∀ x : AV, xE l (xE m x) = xE m (xE l x)
 | .own k => by simp only [xE]; cases h1 : Nat.beq k m <;> cases h2 : Nat.beq k l <;> simp [xE, h1, h2]
 | .optr k i p c => by simp only [xE]; cases h1 : Nat.beq k m <;> cases h2 : Nat.beq k l <;> simp [xE, h1, h2]
 | .mapv k => by simp only [xE]; cases h1 : Nat.beq k m <;> cases h2 : Nat.beq k l <;> simp [xE, h1, h2]
 | .mix xs => by simp only [xE]; rw [aCS l m xs]
 | .fn f xs ys => by simp only [xE]; cases h1 : (xI m xs || xI m ys) <;> cases h2 : (xI l xs || xI l ys) <;> simp [xE, h1, h2]
 | .ifc t x => by simp only [xE]; cases h1 : x.names m <;> cases h2 : x.names l <;> simp [xE, h1, h2]
 | .tup _ => by simp [xE]
 | .any => by simp [xE]
 | .v _ => by simp [xE]
 | .agg _ => by simp [xE]
 | .lst _ _ => by simp [xE]
 | .ptr _ => by simp [xE]
 | .rd _ => by simp [xE]
theorem aCS (l m : Nat) : ∀ xs : List AV, uM l (uM m xs) = uM m (uM l xs)
 | [] => rfl
 | x :: xs => by simp only [uM]; rw [aCQ l m x, aCS l m xs]
end
theorem aG2 (l m : Nat) (e : ET) : yR l (yR m e) = yR m (yR l e) := by
 cases e <;> first | rfl | (simp only [yR]; rw [aCQ])
theorem aG3 (l m : Nat) (o : Option OB) : xV l (xV m o) = xV m (xV l o) := by
 cases o with
 | none => rfl
 | some ob => obtain ⟨e, sz, xs⟩ := ob; simp only [xV]; rw [aG2]
theorem aG5 {l : Nat} {ob : OB} (h : ob.e.shut = true) : xV l (some ob) = some ob := by
 obtain ⟨e, sz, xs⟩ := ob
 simp only [xV]; rw [aAP l e h]
def aCh (P : Program) (Θ : Tab) (n : Nat) (ops : Array Oper) (L : Array Bool) (i : Nat) (K : St → Prop) (s : St) : Prop :=
 match ops[i]? with
 | none => K s
 | some o => inN n o.dst = true ∧ o.guard = none ∧
  ((∃ u ks nu, Ev P Θ ops (fun j => L.getD j false) i o s u ks nu ∧ K ((shp ks nu s).put o.dst u)) ∨
   (tied ops i = true ∧ ∃ e, Pre P Θ o s e ∧ Gh K (s.app o.dst e)))
def aBD (P : Program) (Θ : Tab) (n : Nat) (ops : Array Oper) (K : St → Prop) : Nat → Array Bool → St → Prop
 | 0, listed, s => Region.ready .any ops listed = [] ∧ Gh K s
 | fuel + 1, listed, s => (Region.ready .any ops listed = [] → Gh K s) ∧ ∀ i ∈ Region.ready .any ops listed, aCh P Θ n ops listed i (aBD P Θ n ops K fuel (listed.setIfInBounds i true)) s
theorem aJe (ks : List Nat) : fgt ks .any = .any := by unfold fgt; cases ks.any (fun l => AV.any.names l) <;> rfl
theorem aCN (ks : List Nat) (x : AV) : fgt ks x = .any ∨ fgt ks x = x := by unfold fgt; cases ks.any (fun l => x.names l) <;> simp
theorem aI5 (ks ms : List Nat) (x : AV) : fgt ks (fgt ms x) = fgt ms (fgt ks x) := by
 rcases aCN ks x with h1 | h1 <;> rcases aCN ms x with h2 | h2 <;> simp [h1, h2, aJe]
theorem kD {ks : List Nat} {x : AV} (h : ∀ l ∈ ks, x.names l = false) : fgt ks x = x := by
 unfold fgt
 have : ks.any (fun l => x.names l) = false := by
  rw [List.any_eq_false]; intro l hl; rw [h l hl]; simp
 rw [this]; rfl
theorem aDM {ks : List Nat} {x : AV} {l : Nat} (h : (fgt ks x).names l = true) : x.names l = true := by
 rcases aCN ks x with e | e <;> rw [e] at h
 · simp [AV.names] at h
 · exact h
theorem aDU (l : Nat) : ∀ (ms : List Nat) (o : Option OB), uD ms (xV l o) = xV l (uD ms o)
 | [], _ => rfl
 | m :: ms, o => by simp only [uD]; rw [← aDU l ms, aG3]
theorem aDT (ms : List Nat) : ∀ (ks : List Nat) (o : Option OB), uD ks (uD ms o) = uD ms (uD ks o)
 | [], _ => rfl
 | k :: ks, o => by simp only [uD]; rw [← aDU k ms, aDT ms ks]
theorem qN : ∀ ks : List Nat, uD ks none = none
 | [] => rfl
 | k :: ks => by simp only [uD]; exact qN ks
theorem aDV {ob : OB} (h : ob.e.shut = true) : ∀ ks : List Nat, uD ks (some ob) = some ob
 | [] => rfl
 | k :: ks => by simp only [uD]; rw [aG5 h, aDV h ks]
theorem jv {ks : List Nat} {o : Option OB} (h : ∀ ob, o = some ob → ks = [] ∨ ob.e.shut = true) : uD ks o = o := by
 cases o with
 | none => exact qN ks
 | some ob =>
  rcases h ob rfl with rfl | h
  · rfl
  · exact aDV h ks
theorem aEY {ks : List Nat} {o : Option OB} (h : ∀ ob, o = some ob → ob.e.shut = true) : uD ks o = o := jv fun ob e => .inr (h ob e)
theorem aFT (l : Nat) (e : ET) : (yR l e).shut = e.shut := by cases e <;> rfl
theorem wB : ∀ (ks : List Nat) (ob : OB), ∃ ob', uD ks (some ob) = some ob' ∧ ob'.e.shut = ob.e.shut
 | [], ob => ⟨ob, rfl, rfl⟩
 | k :: ks, ob => by
  obtain ⟨e, sz, xs⟩ := ob
  obtain ⟨ob', h1, h2⟩ := wB ks ⟨yR k e, sz, xs⟩
  exact ⟨ob', h1, by rw [h2]; exact aFT k e⟩
theorem qM {ks : List Nat} {o : Option OB} {ob : OB} (h : uD ks o = some ob) : ∃ ob0, o = some ob0 ∧ ob0.e.shut = ob.e.shut := by
 cases o with
 | none => rw [qN] at h; cases h
 | some ob0 =>
  obtain ⟨ob', h1, h2⟩ := wB ks ob0
  rw [h1] at h; cases h
  exact ⟨ob0, rfl, h2.symm⟩
theorem aEZ {l : Nat} : ∀ (ks : List Nat) (ob ob' : OB), uD ks (some ob) = some ob' → yS l ob'.e = true → yS l ob.e = true
 | [], ob, ob', h, hn => by cases h; exact hn
 | k :: ks, ⟨e, sz, xs⟩, ob', h, hn => vo k l e (aEZ ks ⟨yR k e, sz, xs⟩ ob' h hn)
theorem aG6 {l : Nat} {ks : List Nat} {o : Option OB} {ob : OB} (h : uD ks o = some ob) : ∃ ob0, o = some ob0 ∧ (yS l ob.e = true → yS l ob0.e = true) := by
 cases o with
 | none => rw [qN] at h; cases h
 | some ob0 => exact ⟨ob0, rfl, aEZ ks ob0 ob h⟩
theorem aIw {ks ms : List Nat} {nu mu : List (Nat × Option OB)} (hn : ∀ l ob, yN nu l = some (some ob) → ms = [] ∨ ob.e.shut = true) (hm : ∀ l ob, yN mu l = some (some ob) → ks = [] ∨ ob.e.shut = true) (hd : ∀ l, xq nu l → xq mu l → False) (s : St) : shp ks nu (shp ms mu s) = shp ms mu (shp ks nu s) := by
 have hmu : ∀ j o, yN nu j = some o → yN mu j = none := fun j o h => by
  cases h2 : yN mu j with
  | none => rfl
  | some o' => exact (hd j ⟨o, h⟩ ⟨o', h2⟩).elim
 unfold shp
 congr 1
 · funext j; exact aI5 ks ms _
 · funext j
   show (match yN nu j with | some o => o | none => uD ks (match yN mu j with | some o => o | none => uD ms (s.hp j))) = (match yN mu j with | some o => o | none => uD ms (match yN nu j with | some o => o | none => uD ks (s.hp j)))
   cases h1 : yN nu j with
   | some o => simp only [hmu j o h1]; rw [jv (fun ob e => hn j ob (by rw [h1, e]))]
   | none =>
    cases h2 : yN mu j with
    | some o => simp only; rw [jv (fun ob e => hm j ob (by rw [h2, e]))]
    | none => simp only; exact aDT ms ks _
 · funext j
   show (match yN nu j with | some _ => none | none => (match yN mu j with | some _ => none | none => s.mp j)) = (match yN mu j with | some _ => none | none => (match yN nu j with | some _ => none | none => s.mp j))
   cases h1 : yN nu j with
   | some o => simp only [hmu j o h1]
   | none => simp only
theorem aBX {ks : List Nat} {nu : List (Nat × Option OB)} {d : Option Tmp} {u : AV} (h : ∀ l ∈ ks, u.names l = false) (s : St) : shp ks nu (s.put d u) = (shp ks nu s).put d u := by
 cases d with
 | none => rfl
 | some t =>
  unfold shp St.put
  congr 1
  funext j
  show fgt ks (bif Nat.beq j t then u else s.sl j) = bif Nat.beq j t then u else fgt ks (s.sl j)
  cases Nat.beq j t with
  | true => exact kD h
  | false => rfl
theorem uq {d : Option Tmp} {u : AV} {ks : List Nat} {nu : List (Nat × Option OB)} {s : St} {t : Tmp} (h : d ≠ some t) : ((shp ks nu s).put d u).sl t = fgt ks (s.sl t) := by
 cases d with
 | none => rfl
 | some d =>
  have hne : t ≠ d := fun e => h (by rw [e])
  show (bif Nat.beq t d then u else fgt ks (s.sl t)) = _
  rw [xY hne]; rfl
theorem aEz {t : Tmp} {u : AV} {ks : List Nat} {nu : List (Nat × Option OB)} {s : St} : ((shp ks nu s).put (some t) u).sl t = u := by
 show (bif Nat.beq t t then u else fgt ks (s.sl t)) = u
 rw [Nat.beq_refl]; rfl
theorem uo {d : Option Tmp} {u : AV} {ks : List Nat} {nu : List (Nat × Option OB)} {s : St} {l : Nat} : ((shp ks nu s).put d u).hp l = (match yN nu l with | some o => o | none => uD ks (s.hp l)) := by rw [jm]; rfl
theorem aDr {d : Option Tmp} {u : AV} {ks : List Nat} {nu : List (Nat × Option OB)} {s : St} {l : Nat} : ((shp ks nu s).put d u).mp l = (match yN nu l with | some _ => none | none => s.mp l) := by rw [aAv]; rfl
theorem uS {nu : List (Nat × Option OB)} {l : Nat} (h : ¬ xq nu l) : yN nu l = none := by
 cases e : yN nu l with
 | none => rfl
 | some o => exact (h ⟨o, e⟩).elim
theorem aFJ {ops : Array Oper} {k : Nat} {o : Oper} (h : wvB ops k o = true) : wP o = true ∧ ∀ d, o.dst = some d → ∀ j2 o2, ops[j2]? = some o2 → j2 ≠ k → zi ops j2 k = false → d ∉ tmpsOf o2 := by
 unfold wvB at h
 rw [Bool.and_eq_true] at h
 refine ⟨h.1, fun d hd j2 o2 h2 hne ho hm => ?_⟩
 have h4 := List.all_eq_true.1 h.2 j2 (List.mem_range.2 (Array.getElem?_eq_some_iff.1 h2).1)
 simp only [xY hne, ho, Bool.false_or, h2, hd, Bool.not_eq_true'] at h4
 rw [List.contains_iff_mem.2 hm] at h4; cases h4
theorem kr {o : Oper} (h : wP o = true) : vJ o = true ∧ aFC o = false ∧ aCu o = true := by
 obtain ⟨dst, op, ty, pos, after, guard⟩ := o
 unfold wP at h
 cases op <;> simp at h
 case move x =>
  cases x <;> simp at h
  simp [vJ, aFC, aCu, h]
theorem qw {l : Nat} (h : xq [] l) : False := by obtain ⟨o, h⟩ := h; simp [yN] at h
theorem wo {P : Program} {Θ : Tab} {o : Oper} {s s' : St} {v : AV} (hq : wP o = true) (hev : ∀ t ∈ tmpsOf o, s'.sl t = s.sl t) (h : Pre P Θ o s ⟨v, none⟩) : Pre P Θ o s' ⟨v, none⟩ :=
 ko (two := false) (by simp [calm, (kr hq).1]) (fun x hx => by
  cases x with
  | tmp t => exact hev t (uE hx)
  | _ => rfl) (fun h => by cases h) h
theorem aGw {P : Program} {Θ : Tab} {o : Oper} {s : St} {v : AV} (hq : wP o = true) (hp : Pre P Θ o s ⟨v, none⟩) : SftG P Θ o s v [] [] :=
 ⟨fun s' h1 h2 => ⟨⟨v, none⟩, ko (two := false) (by simp [calm, (kr hq).1]) h1 (fun h => by cases h) hp, fun K hK => .done hK⟩, fun l ob h => by simp [yN] at h, fun l hl => (by cases hl), fun l hl => .inr (.inl (jM (kr hq).1 hp l hl)), fun l hl => (qw hl).elim, fun l ob hl => (qw hl).elim, fun l0 ob l h => by simp [yN] at h⟩
theorem aEU {P : Program} {Θ : Tab} {ops : Array Oper} {L : Nat → Bool} {k : Nat} {o : Oper} {s : St} {v : AV} (hq : wP o = true) (hp : Pre P Θ o s ⟨v, none⟩) : Ev P Θ ops L k o s v [] [] :=
 ⟨aGw hq hp, fun _ _ _ _ _ => .inr fun _ _ _ l hl => (qw hl).elim, fun _ _ _ _ _ _ => .inl fun l hl => (by cases hl), fun _ _ _ _ _ _ _ _ _ _ _ _ => .inl rfl, fun _ _ _ _ _ _ _ l hl => (qw hl).elim, fun _ _ _ _ _ _ _ _ _ _ l _ _ hl => (qw hl).elim, .inl rfl, fun h => (by rw [(kr hq).2.1] at h; cases h), fun _ => rfl, fun _ => ⟨rfl, hp⟩⟩
theorem aA3 (s : St) : shp [] [] s = s := rfl
section
variable {P : Program} {Θ : Tab} {n : Nat} {ops : Array Oper} {s : St} {listed : Array Bool} {i j : Nat} {oi oj : Oper} {ui uj : AV} {ki kj : List Nat} {ni nj : List (Nat × Option OB)}
theorem aJb (hpr : qH ops) (hcl : Closed ops listed) (hi : ops[i]? = some oi) (hoj : ops[j]? = some oj) (hji : j ≠ i) (hr : i ∈ Region.ready .any ops listed) (hj : j ∈ Region.ready .any ops listed)
 (a2 : ∀ d, oi.dst = some d → oj.dst ≠ some d)
 (Ei : Ev P Θ ops (fun m => listed.getD m false) i oi s ui ki ni) (Ej : Ev P Θ ops (fun m => (listed.setIfInBounds i true).getD m false) j oj ((shp ki ni s).put oi.dst ui) uj kj nj) :
 Ev P Θ ops (fun m => listed.getD m false) j oj s uj kj nj ∧ Ev P Θ ops (fun m => (listed.setIfInBounds j true).getD m false) i oi ((shp kj nj s).put oj.dst uj) ui ki ni ∧
 (shp kj nj ((shp ki ni s).put oi.dst ui)).put oj.dst uj = (shp ki ni ((shp kj nj s).put oj.dst uj)).put oi.dst ui := by
 have u1 : zi ops j i = false := zw hcl hr hj
 have u2 : zi ops i j = false := zw hcl hj hr
 have F1 : ∀ t ∈ tmpsOf oj, uJ ops (fun m => listed.getD m false) t := fun t ht j' o' h' d' => (hpr j oj hoj t ht j' o' h' d').2.imp (vF hcl hj) id
 have F2 : ∀ t ∈ tmpsOf oi, uJ ops (fun m => listed.getD m false) t := fun t ht j' o' h' d' => (hpr i oi hi t ht j' o' h' d').2.imp (vF hcl hr) id
 have up : ∀ {k : Nat} {t : Tmp}, uJ ops (fun m => listed.getD m false) t → uJ ops (fun m => (listed.setIfInBounds k true).getD m false) t := fun h j' o' h' d' => (h j' o' h' d').imp getD_set_true id
 have hil : i < ops.size := (Array.getElem?_eq_some_iff.1 hi).1
 have hjl : j < ops.size := (Array.getElem?_eq_some_iff.1 hoj).1
 have ndi : ∀ t, uJ ops (fun m => listed.getD m false) t → oi.dst ≠ some t := fun t h e => by
  rcases h i oi hi e with this | this
  · have : listed.getD i false = true := this
    rw [jL hr] at this; cases this
  · have := vF hcl hr (aBa this hjl hji)
    rw [jL hj] at this; cases this
 have ndj : ∀ t, uJ ops (fun m => listed.getD m false) t → oj.dst ≠ some t := fun t h e => by
  rcases h j oj hoj e with this | this
  · have : listed.getD j false = true := this
    rw [jL hj] at this; cases this
  · have := vF hcl hj (aBa this hil (Ne.symm hji))
    rw [jL hr] at this; cases this
 have down : ∀ t, uJ ops (fun m => (listed.setIfInBounds j true).getD m false) t → oj.dst ≠ some t → uJ ops (fun m => listed.getD m false) t := fun t h hd j' o' h' d' => by
  rcases h j' o' h' d' with h1 | h1
  case inr => exact .inr h1
  refine .inl ?_
  have h1 : (listed.setIfInBounds j true).getD j' false = true := h1
  show listed.getD j' false = true
  by_cases e : j = j'
  · subst e; rw [hoj] at h'; cases h'; exact absurd d' hd
  · rw [getD_set_ne false e] at h1; exact h1
 rcases Ei.apart j oj hoj hji u1 with ⟨hki, hw⟩ | ci0
 · subst hki
   obtain ⟨hqj, hwd⟩ := aFJ hw
   obtain rfl : kj = [] := Ej.nks (kr hqj).2.2
   obtain ⟨hn0, hpj⟩ := Ej.qt hqj
   subst hn0
   have hpjs : Pre P Θ oj s ⟨uj, none⟩ := wo hqj (fun t ht => by rw [uq (ndi t (F1 t ht))]; rfl) hpj
   have hsl : ∀ t, oj.dst ≠ some t → ((shp [] [] s).put oj.dst uj).sl t = s.sl t := fun t ht => by rw [uq ht]; rfl
   have hhp : ∀ l, ((shp [] [] s).put oj.dst uj).hp l = s.hp l := fun l => by rw [uo]; rfl
   have hmp : ∀ l, ((shp [] [] s).put oj.dst uj).mp l = s.mp l := fun l => by rw [aDr]; rfl
   have hsi : ∀ t ∈ tmpsOf oi, ((shp [] [] s).put oj.dst uj).sl t = s.sl t := fun t ht => hsl t (ndj t (F2 t ht))
   have hnm : ∀ l, yQ s oi l → yQ ((shp [] [] s).put oj.dst uj) oi l := fun l ⟨t, ht, h⟩ => ⟨t, ht, by rw [hsi t ht]; exact h⟩
   have hrn : ∀ l, jA s oi l → jA ((shp [] [] s).put oj.dst uj) oi l := fun l ⟨l0, ob, h1, h2, h3⟩ => ⟨l0, ob, hnm l0 h1, by rw [hhp]; exact h2, h3⟩
   refine ⟨aEU hqj hpjs, ⟨⟨fun s' h1 h2 => Ei.sft.loc s' (fun x hx => ?_) (fun l hl => ?_), Ei.sft.shut, Ei.sft.ksin, fun l hl => (Ei.sft.val l hl).imp id (Or.imp (hnm l) (fun ⟨h1, h2⟩ => ⟨hrn l h1, by rw [hhp]; exact h2⟩)), fun l hl => (Ei.sft.old l hl).imp id (hnm l), fun l ob hl ho => Ei.sft.row l ob hl (by rw [hhp] at ho; exact ho), fun l0 ob l h hn => (Ei.sft.new l0 ob l h hn).imp id (hnm l)⟩, fun j' o' h' ne' un' => ?_, fun _ _ _ _ _ _ => .inl fun l hl => (by cases hl), fun _ _ _ _ _ _ _ _ _ _ _ _ => .inl rfl, Ei.disj, fun j' o' h' ne' un' t ht fr l0 ob l hn ho hl => ?_, .inl rfl, Ei.opn, Ei.nks, fun hq => ⟨(Ei.qt hq).1, wo hq hsi (Ei.qt hq).2⟩⟩, ?_⟩
   · rw [h1 x hx]
     cases x with
     | tmp t => exact hsi t (uE hx)
     | _ => rfl
   · have := h2 l (hl.imp id (hnm l))
     rw [hhp, hmp] at this
     exact this
   · rcases Ei.apart j' o' h' ne' un' with hW | hA
     · exact .inl hW
     · refine .inr fun t ht fr l hl => ?_
       by_cases hd : oj.dst = some t
       · exact absurd ht (hwd t hd j' o' h' ne' un')
       · rw [hsl t hd]; exact hA t ht (down t fr hd) l hl
   · by_cases hd : oj.dst = some t
     · exact absurd ht (hwd t hd j' o' h' ne' un')
     · rw [hsl t hd] at hn
       rw [hhp] at ho
       exact Ei.far j' o' h' ne' un' t ht (down t fr hd) l0 ob l hn ho hl
   · rw [aA3, aA3, aBX (fun l hl => by cases hl)]
     exact (put_comm _ uj ui (fun d h1 h2 => a2 d h2 h1)).symm
 rcases Ej.apart i oi hi (Ne.symm hji) u2 with ⟨hkj, hw⟩ | cj0
 · subst hkj
   obtain ⟨hqi, hwd⟩ := aFJ hw
   obtain rfl : ki = [] := Ei.nks (kr hqi).2.2
   obtain ⟨hn0, hpi⟩ := Ei.qt hqi
   subst hn0
   have hsl : ∀ t, oi.dst ≠ some t → ((shp [] [] s).put oi.dst ui).sl t = s.sl t := fun t ht => by rw [uq ht]; rfl
   have hhp : ∀ l, ((shp [] [] s).put oi.dst ui).hp l = s.hp l := fun l => by rw [uo]; rfl
   have hmp : ∀ l, ((shp [] [] s).put oi.dst ui).mp l = s.mp l := fun l => by rw [aDr]; rfl
   have hsj : ∀ t ∈ tmpsOf oj, ((shp [] [] s).put oi.dst ui).sl t = s.sl t := fun t ht => hsl t (ndi t (F1 t ht))
   have hnm : ∀ l, yQ ((shp [] [] s).put oi.dst ui) oj l → yQ s oj l := fun l ⟨t, ht, h⟩ => ⟨t, ht, by rw [← hsj t ht]; exact h⟩
   have hrn : ∀ l, jA ((shp [] [] s).put oi.dst ui) oj l → jA s oj l := fun l ⟨l0, ob, h1, h2, h3⟩ => ⟨l0, ob, hnm l0 h1, by rw [← hhp]; exact h2, h3⟩
   refine ⟨⟨⟨fun s' h1 h2 => Ej.sft.loc s' (fun x hx => ?_) (fun l hl => ?_), Ej.sft.shut, Ej.sft.ksin, fun l hl => (Ej.sft.val l hl).imp id (Or.imp (hnm l) (fun ⟨h1, h2⟩ => ⟨hrn l h1, by rw [← hhp]; exact h2⟩)), fun l hl => (Ej.sft.old l hl).imp id (hnm l), fun l ob hl ho => Ej.sft.row l ob hl (by rw [hhp]; exact ho), fun l0 ob l h hn => (Ej.sft.new l0 ob l h hn).imp id (hnm l)⟩, fun j' o' h' ne' un' => ?_, fun _ _ _ _ _ _ => .inl fun l hl => (by cases hl), fun _ _ _ _ _ _ _ _ _ _ _ _ => .inl rfl, Ej.disj, fun j' o' h' ne' un' t ht fr l0 ob l hn ho hl => ?_, .inl rfl, Ej.opn, Ej.nks, fun hq => ⟨(Ej.qt hq).1, wo hq (fun t ht => (hsj t ht).symm) (Ej.qt hq).2⟩⟩, aEU hqi (wo hqi (fun t ht => by rw [uq (ndj t (F2 t ht))]; rfl) hpi), ?_⟩
   · rw [h1 x hx]
     cases x with
     | tmp t => exact (hsj t (uE hx)).symm
     | _ => rfl
   · rw [hhp, hmp]
     exact h2 l (hl.imp id (hnm l))
   · rcases Ej.apart j' o' h' ne' un' with hW | hA
     · exact .inl hW
     · refine .inr fun t ht fr l hl => ?_
       rw [← hsl t (ndi t fr)]; exact hA t ht (up fr) l hl
   · refine Ej.far j' o' h' ne' un' t ht (up fr) l0 ob l ?_ ?_ hl
     · rw [hsl t (ndi t fr)]; exact hn
     · rw [hhp]; exact ho
   · rw [aA3, aA3, aBX (fun l hl => by cases hl)]
     exact (put_comm _ uj ui (fun d h1 h2 => a2 d h2 h1)).symm
 have ci : ∀ t ∈ tmpsOf oj, ∀ l, xq ni l → (s.sl t).names l = false := fun t ht l hl => ci0 t ht (F1 t ht) l hl
 have hsj : ∀ t ∈ tmpsOf oj, ((shp ki ni s).put oi.dst ui).sl t = s.sl t := fun t ht => by
  rw [uq (ndi t (F1 t ht))]; exact kD fun l hl => ci t ht l (Ei.sft.ksin l hl)
 have cj : ∀ t ∈ tmpsOf oi, ∀ l, xq nj l → (fgt ki (s.sl t)).names l = false := fun t ht l hl => by
  have := cj0 t ht (up (F2 t ht)) l hl
  rwa [uq (ndi t (F2 t ht))] at this
 have hnj : ∀ l, yQ ((shp ki ni s).put oi.dst ui) oj l → yQ s oj l := fun l ⟨t, ht, h⟩ => ⟨t, ht, by rw [← hsj t ht]; exact h⟩
 have hnj' : ∀ l, yQ s oj l → ¬ xq ni l := fun l ⟨t, ht, h⟩ hl => by rw [ci t ht l hl] at h; cases h
 have hdis : ∀ l, xq ni l → xq nj l → False := fun l h1 h2 => by
  rcases Ej.sft.old l h2 with ⟨d, hd, e⟩ | h
  · exact Ei.disj j oj hoj hji u1 d hd l h1 e
  · exact hnj' l (hnj l h) h1
 have cjs : ∀ t ∈ tmpsOf oi, ∀ l, xq nj l → (s.sl t).names l = false := fun t ht l hl => by
  rcases Ei.pure i oi hi t ht (F2 t ht) with h | h
  · have := cj t ht l hl
    rwa [kD h] at this
  · cases e : (s.sl t).names l with
    | false => rfl
    | true => exact (hdis l (h l e) hl).elim
 have hni' : ∀ l, yQ s oi l → ¬ xq nj l := fun l ⟨t, ht, h⟩ hl => by rw [cjs t ht l hl] at h; cases h
 have hsi : ∀ t ∈ tmpsOf oi, ((shp kj nj s).put oj.dst uj).sl t = s.sl t := fun t ht => by
  rw [uq (ndj t (F2 t ht))]; exact kD fun l hl => cjs t ht l (Ej.sft.ksin l hl)
 have rowj : ∀ l ob, xq nj l → s.hp l = some ob → ob.e.shut = true := fun l ob hl ho => by
  obtain ⟨ob', q1, q2⟩ := wB ki ob
  rw [← q2]
  refine Ej.sft.row l ob' hl ?_
  rw [uo, uS (fun h => hdis l h hl)]
  simp only [ho, q1]
 have hhj : ∀ l, xq nj l ∨ yQ s oj l → ((shp ki ni s).put oi.dst ui).hp l = s.hp l ∧ ((shp ki ni s).put oi.dst ui).mp l = s.mp l := fun l h => by
  have hn : ¬ xq ni l := fun hl => by
   rcases h with h | h
   · exact hdis l hl h
   · exact hnj' l h hl
  rw [uo, aDr, uS hn]
  refine ⟨?_, rfl⟩
  rcases h with h | ⟨t, ht, h⟩
  · exact aEY fun ob e => rowj l ob h e
  · exact jv fun ob e => Ei.rows j oj hoj hji u1 t ht (F1 t ht) l ob h e
 have hhi : ∀ l, xq ni l ∨ yQ s oi l → ((shp kj nj s).put oj.dst uj).hp l = s.hp l ∧ ((shp kj nj s).put oj.dst uj).mp l = s.mp l := fun l h => by
  have hn : ¬ xq nj l := fun hl => by
   rcases h with h | h
   · exact hdis l h hl
   · exact hni' l h hl
  rw [uo, aDr, uS hn]
  refine ⟨?_, rfl⟩
  by_cases hl : xq ni l
  · exact aEY fun ob e => Ei.sft.row l ob hl e
  · rcases h with h | ⟨t, ht, h⟩
    · exact absurd h hl
    · refine jv fun ob e => ?_
      obtain ⟨ob', q1, q2⟩ := wB ki ob
      rcases Ei.pure i oi hi t ht (F2 t ht) with hp | hp
      · have := Ej.rows i oi hi (Ne.symm hji) u2 t ht (up (F2 t ht)) l ob' (by rw [uq (ndi t (F2 t ht)), kD hp]; exact h) (by rw [uo, uS hl]; simp only [e, q1])
        rwa [q2] at this
      · exact absurd (hp l h) hl
 have evj : ∀ s' : St, (∀ x ∈ oj.op.operands, s'.ev x = s.ev x) → ∀ x ∈ oj.op.operands, s'.ev x = ((shp ki ni s).put oi.dst ui).ev x := fun s' h x hx => by
  rw [h x hx]
  cases x with
  | tmp t => exact (hsj t (uE hx)).symm
  | _ => rfl
 have evi : ∀ s' : St, (∀ x ∈ oi.op.operands, s'.ev x = ((shp kj nj s).put oj.dst uj).ev x) → ∀ x ∈ oi.op.operands, s'.ev x = s.ev x := fun s' h x hx => by
  rw [h x hx]
  cases x with
  | tmp t => exact hsi t (uE hx)
  | _ => rfl
 have hni2 : ∀ l, yQ s oi l → yQ ((shp kj nj s).put oj.dst uj) oi l := fun l ⟨t, ht, h⟩ => ⟨t, ht, by rw [hsi t ht]; exact h⟩
 have hnjb : ∀ l, yQ s oj l → yQ ((shp ki ni s).put oi.dst ui) oj l := fun l ⟨t, ht, h⟩ => ⟨t, ht, by rw [hsj t ht]; exact h⟩
 have rnj : ∀ l, jA ((shp ki ni s).put oi.dst ui) oj l → jA s oj l := fun l ⟨l0, ob, h1, h2, h3⟩ => ⟨l0, ob, hnj l0 h1, by rw [← (hhj l0 (.inr (hnj l0 h1))).1]; exact h2, h3⟩
 have shi : ∀ l, (∀ ob, ((shp ki ni s).put oi.dst ui).hp l = some ob → ob.e.shut = true) → ∀ ob, s.hp l = some ob → ob.e.shut = true := fun l h ob ho => by
  by_cases hl : xq ni l
  · exact Ei.sft.row l ob hl ho
  · obtain ⟨ob', q1, q2⟩ := wB ki ob
    rw [← q2]
    exact h ob' (by rw [uo, uS hl]; simp only [ho, q1])
 have vj : ∀ l, uj.names l = true → xq nj l ∨ yQ s oj l ∨ (jA s oj l ∧ ∀ ob, s.hp l = some ob → ob.e.shut = true) := fun l hl => (Ej.sft.val l hl).imp id (Or.imp (hnj l) (fun ⟨h1, h2⟩ => ⟨rnj l h1, shi l h2⟩))
 have farj : ∀ l, jA s oj l → ¬ xq ni l := fun l ⟨l0, ob, ⟨t, ht, h1⟩, h2, h3⟩ hl => by
  rw [Ei.far j oj hoj hji u1 t ht (F1 t ht) l0 ob l h1 h2 hl] at h3; cases h3
 have ujn : ∀ l, xq ni l → uj.names l = false := fun l hl => by
  cases e : uj.names l with
  | false => rfl
  | true =>
   rcases vj l e with h | h | h
   · exact (hdis l hl h).elim
   · exact absurd hl (hnj' l h)
   · exact absurd hl (farj l h.1)
 have fari : ∀ l, jA s oi l → ¬ xq nj l := fun l ⟨l0, ob, ⟨t, ht, h1⟩, h2, h3⟩ hl => by
  by_cases h0 : xq ni l0
  · rw [vT (Ei.sft.row l0 ob h0 h2)] at h3; cases h3
  rcases Ei.cls with hk | hk
  · have e1 : ((shp ki ni s).put oi.dst ui).sl t = s.sl t := by rw [uq (ndi t (F2 t ht)), hk]; rfl
    have e2 : ((shp ki ni s).put oi.dst ui).hp l0 = some ob := by rw [uo, uS h0, hk]; exact h2
    rw [Ej.far i oi hi (Ne.symm hji) u2 t ht (up (F2 t ht)) l0 ob l (by rw [e1]; exact h1) e2 hl] at h3; cases h3
  · rw [vT (hk i oi hi t ht (F2 t ht) l0 ob h1 h2)] at h3; cases h3
 have uin : ∀ l, xq nj l → ui.names l = false := fun l hl => by
  cases e : ui.names l with
  | false => rfl
  | true =>
   rcases Ei.sft.val l e with h | h | h
   · exact (hdis l h hl).elim
   · exact absurd hl (hni' l h)
   · exact absurd hl (fari l h.1)
 have njs : ∀ l ob, yN nj l = some (some ob) → ki = [] ∨ ob.e.shut = true := fun l ob h => by
  rcases Ej.sft.shut l ob h with h | h
  · exact .inr h
  · exact .inl (Ei.nks (Ej.opn h i oi hi (Ne.symm hji) u2))
 have nis : ∀ l ob, yN ni l = some (some ob) → kj = [] ∨ ob.e.shut = true := fun l ob h => by
  rcases Ei.sft.shut l ob h with h | h
  · exact .inr h
  · exact .inl (Ej.nks (Ei.opn h j oj hoj hji u1))
 have hni2r : ∀ l, jA s oi l → jA ((shp kj nj s).put oj.dst uj) oi l := fun l ⟨l0, ob, h1, h2, h3⟩ => ⟨l0, ob, hni2 l0 h1, by rw [(hhi l0 (.inr h1)).1]; exact h2, h3⟩
 have viS : ∀ l, jA s oi l → (∀ ob, s.hp l = some ob → ob.e.shut = true) → ∀ ob, ((shp kj nj s).put oj.dst uj).hp l = some ob → ob.e.shut = true := fun l h1 h2 ob ho => by
  have hnl := fari l h1
  rw [uo, uS hnl] at ho
  obtain ⟨ob0, k1, k2⟩ := qM ho
  rw [← k2]
  exact h2 ob0 k1
 have after : ∀ (j' : Nat) (o' : Oper), ops[j']? = some o' → ∀ t ∈ tmpsOf o', uJ ops (fun m => (listed.setIfInBounds j true).getD m false) t → ∀ l0, (((shp kj nj s).put oj.dst uj).sl t).names l0 = true →
  xq nj l0 ∨ (oj.dst = some t ∧ (yQ s oj l0 ∨ (∀ ob, s.hp l0 = some ob → ob.e.shut = true))) ∨ (oj.dst ≠ some t ∧ (s.sl t).names l0 = true) := fun j' o' h' t ht fr l0 hn => by
  by_cases hd : oj.dst = some t
  · rw [hd, aEz] at hn
    rcases vj l0 hn with h | h | h
    · exact .inl h
    · exact .inr (.inl ⟨hd, .inl h⟩)
    · exact .inr (.inl ⟨hd, .inr h.2⟩)
  · rw [uq hd] at hn
    exact .inr (.inr ⟨hd, aDM hn⟩)
 refine ⟨⟨⟨fun s' h1 h2 => ?_, Ej.sft.shut, Ej.sft.ksin, vj, fun l hl => (Ej.sft.old l hl).imp id (hnj l), rowj, fun l0 ob l h hn => (Ej.sft.new l0 ob l h hn).imp id (hnj l)⟩, fun j' o' h' ne' un' => ?_, fun j' o' h' t ht fr => ?_, fun j' o' h' ne' un' t ht fr l ob hn ho => ?_, Ej.disj, fun j' o' h' ne' un' t ht fr l0 ob l hn ho hl => ?_, ?_, Ej.opn, Ej.nks, fun hq => ⟨(Ej.qt hq).1, wo hq (fun t ht => (hsj t ht).symm) (Ej.qt hq).2⟩⟩,
  ⟨⟨fun s' h1 h2 => ?_, Ei.sft.shut, Ei.sft.ksin, fun l hl => (Ei.sft.val l hl).imp id (Or.imp (hni2 l) (fun ⟨h1, h2⟩ => ⟨hni2r l h1, viS l h1 h2⟩)), fun l hl => (Ei.sft.old l hl).imp id (hni2 l), fun l ob hl ho => Ei.sft.row l ob hl ((hhi l (.inl hl)).1.symm.trans ho), fun l0 ob l h hn => (Ei.sft.new l0 ob l h hn).imp id (hni2 l)⟩, fun j' o' h' ne' un' => ?_, fun j' o' h' t ht fr => ?_, fun j' o' h' ne' un' t ht fr l ob hn ho => ?_, Ei.disj, fun j' o' h' ne' un' t ht fr l0 ob l hn ho hl => ?_, ?_, Ei.opn, Ei.nks, fun hq => ⟨(Ei.qt hq).1, wo hq hsi (Ei.qt hq).2⟩⟩, ?_⟩
 · refine Ej.sft.loc s' (evj s' h1) fun l hl => ?_
   have hl' : xq nj l ∨ yQ s oj l := hl.imp id (hnj l)
   have := hhj l hl'
   exact ⟨(h2 l hl').1.trans this.1.symm, (h2 l hl').2.trans this.2.symm⟩
 · rcases Ej.apart j' o' h' ne' un' with hW | hA
   · exact .inl hW
   · refine .inr fun t ht fr l hl => ?_
     rcases Ei.pure j' o' h' t ht fr with hp | hp
     · have := hA t ht (up fr) l hl
       rwa [uq (ndi t fr), kD hp] at this
     · cases e : (s.sl t).names l with
       | false => rfl
       | true => exact (hdis l (hp l e) hl).elim
 · rcases Ei.pure j' o' h' t ht fr with hp | hp
   · have := Ej.pure j' o' h' t ht (up fr)
     rwa [uq (ndi t fr), kD hp] at this
   · refine .inl fun l hl => ?_
     cases e : (s.sl t).names l with
     | false => rfl
     | true => exact (hdis l (hp l e) (Ej.sft.ksin l hl)).elim
 · by_cases hl : xq ni l
   · exact .inr (Ei.sft.row l ob hl ho)
   · rcases Ei.pure j' o' h' t ht fr with hp | hp
     · obtain ⟨ob', q1, q2⟩ := wB ki ob
       have := Ej.rows j' o' h' ne' un' t ht (up fr) l ob' (by rw [uq (ndi t fr), kD hp]; exact hn) (by rw [uo, uS hl]; simp only [ho, q1])
       rwa [q2] at this
     · exact absurd (hp l hn) hl
 · by_cases h0 : xq ni l0
   · exact vT (Ei.sft.row l0 ob h0 ho)
   rcases Ei.cls with hk | hk
   · exact Ej.far j' o' h' ne' un' t ht (up fr) l0 ob l (by rw [uq (ndi t fr), hk]; exact hn) (by rw [uo, uS h0, hk]; exact ho) hl
   · exact vT (hk j' o' h' t ht fr l0 ob hn ho)
 · rcases Ej.cls with hk | hk
   · exact .inl hk
   refine .inr fun j' o' h' t ht fr l0 ob hn ho => ?_
   by_cases h0 : xq ni l0
   · exact Ei.sft.row l0 ob h0 ho
   rcases Ei.pure j' o' h' t ht fr with hp | hp
   · obtain ⟨ob', q1, q2⟩ := wB ki ob
     have := hk j' o' h' t ht (up fr) l0 ob' (by rw [uq (ndi t fr), kD hp]; exact hn) (by rw [uo, uS h0]; simp only [ho, q1])
     rwa [q2] at this
   · exact absurd (hp l0 hn) h0
 · refine Ei.sft.loc s' (evi s' h1) fun l hl => ?_
   have h3 := h2 l (hl.imp id (hni2 l))
   have := hhi l hl
   exact ⟨h3.1.trans this.1, h3.2.trans this.2⟩
 · rcases Ei.apart j' o' h' ne' un' with hW | hA
   · exact .inl hW
   · refine .inr fun t ht fr l hl => ?_
     by_cases hd : oj.dst = some t
     · rw [hd, aEz]; exact ujn l hl
     · rw [uq hd]
       cases e : (fgt kj (s.sl t)).names l with
       | false => rfl
       | true => have := hA t ht (down t fr hd) l hl; rw [aDM e] at this; cases this
 · by_cases hd : oj.dst = some t
   · rw [hd, aEz]; exact .inl fun l hl => ujn l (Ei.sft.ksin l hl)
   · rw [uq hd]
     rcases aCN kj (s.sl t) with e | e
     · rw [e]; exact .inl fun l hl => by simp [AV.names]
     · rw [e]; exact Ei.pure j' o' h' t ht (down t fr hd)
 · rw [uo] at ho
   by_cases hl : xq nj l
   · obtain ⟨o, hl⟩ := hl
     rw [hl] at ho
     simp only at ho
     exact njs l ob (by rw [hl, ho])
   · rw [uS hl] at ho
     obtain ⟨ob0, k1, k2⟩ := qM ho
     rw [← k2]
     rcases after j' o' h' t ht fr l hn with h | ⟨_, ⟨t', ht', h⟩ | h⟩ | ⟨hd, h⟩
     · exact absurd h hl
     · exact Ei.rows j oj hoj hji u1 t' ht' (F1 t' ht') l ob0 h k1
     · exact .inr (h ob0 k1)
     · exact Ei.rows j' o' h' ne' un' t ht (down t fr hd) l ob0 h k1
 · by_cases h0 : xq nj l0
   · obtain ⟨o, h0'⟩ := h0
     rw [uo, h0'] at ho
     simp only at ho
     cases e : yS l ob.e with
     | false => rfl
     | true =>
      rcases Ej.sft.new l0 ob l (by rw [h0', ho]) e with h | h
      · exact (hdis l hl h).elim
      · exact absurd hl (hnj' l (hnj l h))
   rw [uo, uS h0] at ho
   obtain ⟨ob0, k1, k2⟩ := aG6 (l := l) ho
   obtain ⟨ob1, m1, m2⟩ := qM ho
   cases e : yS l ob.e with
   | false => rfl
   | true =>
    have e0 := k2 e
    rcases after j' o' h' t ht fr l0 hn with h | ⟨_, ⟨t', ht', h⟩ | h⟩ | ⟨hd, h⟩
    · exact absurd h h0
    · rw [Ei.far j oj hoj hji u1 t' ht' (F1 t' ht') l0 ob0 l h k1 hl] at e0; cases e0
    · rw [vT (h ob0 k1)] at e0; cases e0
    · rw [Ei.far j' o' h' ne' un' t ht (down t fr hd) l0 ob0 l h k1 hl] at e0; cases e0
 · rcases Ei.cls with hk | hk
   · exact .inl hk
   by_cases hki : ki = []
   · exact .inl hki
   refine .inr fun j' o' h' t ht fr l0 ob hn ho => ?_
   by_cases h0 : xq nj l0
   · obtain ⟨o, h0'⟩ := h0
     rw [uo, h0'] at ho
     simp only at ho
     exact (njs l0 ob (by rw [h0', ho])).resolve_left hki
   rw [uo, uS h0] at ho
   obtain ⟨ob0, k1, k2⟩ := qM ho
   rw [← k2]
   rcases after j' o' h' t ht fr l0 hn with h | ⟨_, ⟨t', ht', h⟩ | h⟩ | ⟨hd, h⟩
   · exact absurd h h0
   · exact hk j oj hoj t' ht' (F1 t' ht') l0 ob0 h k1
   · exact h ob0 k1
   · exact hk j' o' h' t ht (down t fr hd) l0 ob0 h k1
 · have e1 : ∀ l ∈ kj, ui.names l = false := fun l hl => uin l (Ej.sft.ksin l hl)
   have e2 : ∀ l ∈ ki, uj.names l = false := fun l hl => ujn l (Ei.sft.ksin l hl)
   rw [aBX e1, aBX e2, aIw njs nis (fun l h1 h2 => hdis l h2 h1)]
   exact (put_comm _ uj ui (fun d h1 h2 => a2 d h2 h1)).symm
end
section
variable {P : Program} {Θ : Tab} {n : Nat} {ops : Array Oper} {s : St}
theorem aFK (hpr : qH ops) {K : St → Prop} {i : Nat} {oi : Oper} {ui : AV} {ki : List Nat} {ni : List (Nat × Option OB)} (hi : ops[i]? = some oi) (hin : inN n oi.dst = true) (hgd : oi.guard = none) : ∀ (fuel : Nat) (listed : Array Bool) (s : St),
 Closed ops listed → (∀ j oj, ops[j]? = some oj → j ≠ i → listed.getD j true = false → (∀ e ∈ oj.after, Region.binds .any e = true → e.on ≠ i) → oi.apart ops oj = true) →
 i ∈ Region.ready .any ops listed → Ev P Θ ops (fun m => listed.getD m false) i oi s ui ki ni → aBD P Θ n ops K fuel (listed.setIfInBounds i true) ((shp ki ni s).put oi.dst ui) → aBD P Θ n ops K (fuel + 1) listed s := by
 have self : ∀ (listed : Array Bool) (s : St) (K' : St → Prop), Ev P Θ ops (fun m => listed.getD m false) i oi s ui ki ni → K' ((shp ki ni s).put oi.dst ui) → aCh P Θ n ops listed i K' s := fun listed s K' he hk => by
  unfold aCh
  simp only [hi]
  exact ⟨hin, hgd, .inl ⟨ui, ki, ni, he, hk⟩⟩
 intro fuel
 induction fuel with
 | zero =>
  intro listed s hcl _ hr he H
  refine ⟨fun h => (by rw [h] at hr; cases hr), fun j hj => ?_⟩
  by_cases hji : j = i
  · subst hji; exact self _ _ _ he H
  · have := ready_mono hj hji
    rw [H.1] at this
    cases this
 | succ fuel ih =>
  intro listed s hcl hfree hr he H
  refine ⟨fun h => (by rw [h] at hr; cases hr), fun j hj => ?_⟩
  by_cases hji : j = i
  · subst hji; exact self _ _ _ he H
  · have h1 := H.2 j (ready_mono hj hji)
    obtain ⟨hjun, oj, hoj, hall⟩ := mem_ready.1 hj
    have hnot : ∀ e ∈ oj.after, Region.binds .any e = true → e.on ≠ i := fun e he hb heq => by
     have h1 := hall e he hb
     have h0 := (mem_ready.1 hr).1
     rw [heq] at h1
     rcases Nat.lt_or_ge i listed.size with h' | h'
     · simp [h'] at h0 h1; rw [h0] at h1; cases h1
     · simp [Array.getElem?_eq_none h'] at h1
    obtain ⟨a1, a2, a3⟩ := Oper.apart_spec (hfree j oj hoj hji hjun hnot)
    have hfree' : ∀ k ok, ops[k]? = some ok → k ≠ i → (listed.setIfInBounds j true).getD k true = false →
     (∀ e ∈ ok.after, Region.binds .any e = true → e.on ≠ i) → oi.apart ops ok = true := fun k ok hk hki hun hno => by
     refine hfree k ok hk hki ?_ hno
     by_cases hjk : j = k
     · subst hjk; exact hjun
     · rw [getD_set_ne true hjk] at hun; exact hun
    have hcomm : (listed.setIfInBounds i true).setIfInBounds j true = (listed.setIfInBounds j true).setIfInBounds i true := Array.setIfInBounds_comm _ _ (Ne.symm hji)
    unfold aCh at h1 ⊢
    simp only [hoj] at h1 ⊢
    refine ⟨h1.1, h1.2.1, ?_⟩
    rcases h1.2.2 with ⟨uj, kj, nj, hej, hk⟩ | ⟨ht, _⟩
    · obtain ⟨q1, q2, q3⟩ := aJb hpr hcl hi hoj hji hr hj (fun d h1 h2 => a2 d h1 h2) he hej
      refine .inl ⟨uj, kj, nj, q1, ?_⟩
      refine ih (listed.setIfInBounds j true) _ (hcl.list hj) hfree' (ready_mono hr (Ne.symm hji)) q2 ?_
      rw [← hcomm, ← q3]
      exact hk
    · exact absurd (vP hcl hj hr ht) (Ne.symm hji)
theorem aDG (hpr : qH ops) {K : St → Prop} : ∀ (l : List Oper) (k : Nat) (listed : Array Bool) (s : St), Closed ops listed → (∀ m, listed.getD m false = Nat.blt m k) → (∀ j, l[j]? = ops[k + j]?) → Region.lexFrom .any ops l.length k listed = true → xQ P Θ n ops k l s K → aBD P Θ n ops K l.length listed s
 | [], _, _, _, _, _, _, hB, h => ⟨by simpa [Region.lexFrom] using hB, h⟩
 | o :: l, k, listed, s, hcl, hls, hl, hB, h => by
  have h0 : ops[k]? = some o := by simpa using (hl 0).symm
  simp only [List.length_cons, Region.lexFrom, Bool.and_eq_true] at hB
  obtain ⟨⟨hr, hf⟩, hB'⟩ := hB
  have hr' : k ∈ Region.ready .any ops listed := by simpa using hr
  have hrest : ∀ s', xQ P Θ n ops (k + 1) l s' K → aBD P Θ n ops K l.length (listed.setIfInBounds k true) s' := fun s' h' =>
   aDG hpr l (k + 1) _ s' (hcl.list hr') (fun m => by
    have hsz : k < listed.size := by
     have := (mem_ready.1 hr').1
     rcases Nat.lt_or_ge k listed.size with h' | h'
     · exact h'
     · simp [Array.getElem?_eq_none h'] at this
    by_cases hmk : k = m
    · subst hmk
      have h1 : (listed.setIfInBounds k true).getD k false = true := by simp [hsz]
      rw [h1]; simp
    · rw [getD_set_ne false hmk, hls]
      rw [aBG, aBG, decide_eq_decide]; omega) (fun j => by have := hl (j + 1); simpa [Nat.add_assoc, Nat.add_comm 1 j] using this) hB' h'
  unfold xQ at h
  obtain ⟨hin, hg, h⟩ := h
  rcases h with ⟨u, ks, nu, he, hk⟩ | ⟨ht, e, hp, hk⟩
  · have hL : (fun m => listed.getD m false) = fun j => Nat.blt j k := funext hls
    exact aFK hpr h0 hin hg l.length listed s hcl (Region.free_spec h0 hf) hr' (by rw [hL]; exact he) (hrest _ hk)
  · refine ⟨fun h => (by rw [h] at hr'; cases hr'), fun j hj => ?_⟩
    have := vP hcl hr' hj ht
    subst this
    unfold aCh
    simp only [h0]
    exact ⟨hin, hg, .inr ⟨ht, e, hp, hk.mono hrest⟩⟩
end
section
variable {P : Program} {Θ : Tab} {W : World} {M : Hand} {S0 : Nat → Prop} {n : Nat} {ops : Array Oper} {s : St} {a : Act} {w : World} {Q : Exit → Act → World → Prop}
theorem aFL (hΘ : yP P Θ) {K : St → Prop} (hq : ∀ s a w, Sim W M S0 n s a w → K s → Q .normal a w) : ∀ (fuel : Nat) (listed : Array Bool) (s : St) (a : Act) (w : World), Sim W M S0 n s a w → aBD P Θ n ops K fuel listed s → wpAny P .any ops Q fuel listed a w := by
 have fin : ∀ s a w, Sim W M S0 n s a w → Gh K s → Q .normal a w := fun s a w hs h => by
  obtain ⟨s2, hk, hs2⟩ := aAm h hs
  exact hq _ _ _ hs2 hk
 intro fuel
 induction fuel with
 | zero => intro listed s a w hs h; exact ⟨h.1, fin s a w hs h.2⟩
 | succ fuel ih =>
  intro listed s a w hs h
  refine ⟨fun hr => fin s a w hs (h.1 hr), fun i hi => ?_⟩
  have h1 := h.2 i hi
  unfold aCh at h1
  unfold wpOp
  cases ho : ops[i]? with
  | none => simp only [ho] at h1 ⊢; exact ih _ _ _ _ hs h1
  | some o =>
   simp only [ho] at h1 ⊢
   obtain ⟨hin, hgd, h2⟩ := h1
   have hg : xh ops s o = some true := by unfold xh; rw [hgd]
   rw [jl hs hg, if_pos rfl]
   rcases h2 with ⟨u, ks, nu, he, hk⟩ | ⟨_, e, hp, hk⟩
   · obtain ⟨e, hp, hg2⟩ := he.sft.loc s (fun _ _ => rfl) (fun _ _ => ⟨rfl, rfl⟩)
     refine .inl (qQ hΘ hs hp hin fun a' w' hs' => ?_)
     obtain ⟨s2, hk2, hs2⟩ := aAm (hg2 _ hk) hs'
     exact ih _ _ _ _ hs2 hk2
   · refine .inl (qQ hΘ hs hp hin fun a' w' hs' => ?_)
     obtain ⟨s2, hk2, hs2⟩ := aAm hk hs'
     exact ih _ _ _ _ hs2 hk2
theorem aEE (hΘ : yP P Θ) (hm : P.follows .mixedOrders = true) {id : Nat} {QA : St → Prop} (hpr : qH ops) (hB : Region.lexB .any ops = true) (hs : Sim W M S0 n s a w) (hq : ∀ s a w, Sim W M S0 n s a w → QA s → Q .normal a w) (h : xQ P Θ n ops 0 ops.toList s QA) : (Code.region id ops true).wp P Q a w := by
 simp only [Region.lexB, Bool.and_eq_true] at hB
 refine wp_region_any hm ?_
 have hs' : Sim W M S0 n s a { w with drawn := w.drawn + 1 } := by
  obtain ⟨hn, hdf, S, B, V, T, h⟩ := hs
  exact ⟨hn, hdf, S, B, V, T, h.world ((Below.refl _ _).drew)⟩
 have hcl : Closed ops (Array.replicate ops.size false) := fun j o ho hl => by
  have : (Array.replicate ops.size false).getD j false = false := by simp [Array.getD_eq_getD_getElem?, Array.getElem?_replicate]; split <;> rfl
  rw [this] at hl; cases hl
 have := aDG (P := P) (Θ := Θ) (n := n) hpr ops.toList 0 (Array.replicate ops.size false) s hcl (fun m => by
  have : (Array.replicate ops.size false).getD m false = false := by simp [Array.getD_eq_getD_getElem?, Array.getElem?_replicate]; split <;> rfl
  rw [this]; rfl) (by simp) (by simpa using hB.2) h
 exact aFL hΘ hq _ _ _ _ _ hs' (by simpa using this)
end
section
variable {P : Program} {Θ : Tab} {W : World} {M : Hand} {S0 : Nat → Prop} {n : Nat} {ops : Array Oper} {s : St} {a : Act} {w : World} {Q : Exit → Act → World → Prop}
def aLT : AEx → Exit
 | .normal => .normal
 | .exit id => .exit id
 | .ret => .ret
theorem WpN.of {P : Program} {c : Code} {Q : Exit → Act → World → Prop} {a : Act} {w : World} (h : c.wp P Q a w) : WpN P c Q a w := fun b _ k cs => h b k cs
theorem WpN.seq {P : Program} {x y : Code} {Q : Exit → Act → World → Prop} {a : Act} {w : World} (h : WpN P x (Exit.then (WpN P y Q) Q) a w) : WpN P (.seq x y) Q a w := by
 intro b hb k cs
 obtain ⟨e, a1, w1, hq, harr⟩ := h b hb (.code y :: k) cs
 cases e with
 | normal =>
  obtain ⟨e2, a2, w2, hq2, harr2⟩ := hq b hb k cs
  exact ⟨e2, a2, w2, hq2, .of_steps (.head step_seq harr) harr2⟩
 | exit id => exact ⟨_, a1, w1, hq, .of_steps (.one step_seq) (.pass (x := .code y) rfl (fun _ _ => .inl (fun h => by cases h)) harr)⟩
 | goto l => exact ⟨_, a1, w1, hq, .of_steps (.one step_seq) (.pass (x := .code y) rfl (fun _ _ => .inl (fun h => by cases h)) harr)⟩
 | ret => exact ⟨_, a1, w1, hq, .of_steps (.one step_seq) (.pass (x := .code y) rfl (fun _ _ => .inl (fun h => by cases h)) harr)⟩
 | panic ch => exact ⟨_, a1, w1, hq, .of_steps (.one step_seq) (.pass (x := .code y) rfl (fun _ _ => .inl (fun h => by cases h)) harr)⟩
 | outgrown => exact ⟨_, a1, w1, hq, .of_steps (.one step_seq) (.pass (x := .code y) rfl (fun _ _ => .inl (fun h => by cases h)) harr)⟩
theorem WpN.cond {P : Program} {c : Operand} {x y : Code} {t : Bool} {Q : Exit → Act → World → Prop} {a : Act} {w : World} (hc : a.eval c = .bool t) (h : WpN P (if t then x else y) Q a w) : WpN P (.cond c x y) Q a w := fun b hb k cs => by
 obtain ⟨e, a', w', q, r⟩ := h b hb k cs
 exact ⟨e, a', w', q, .of_steps (.one (step_cond hc)) r⟩
theorem WpN.block {P : Program} {id : Nat} {c : Code} {Q : Exit → Act → World → Prop} {a : Act} {w : World} (h : WpN P c (Exit.inBlock id Q) a w) : WpN P (.block id c) Q a w := by
 intro b hb k cs
 obtain ⟨e, a1, w1, hq, harr⟩ := h b hb (.inBlock id :: k) cs
 cases e with
 | normal => exact ⟨.normal, a1, w1, hq, .head step_block (Steps.trans harr (.one step_inBlock))⟩
 | exit j =>
  by_cases hj : j = id
  · subst hj
    have hq' : Q .normal a1 w1 := by simpa [Exit.inBlock] using hq
    exact ⟨.normal, a1, w1, hq', .head step_block (harr k (by simp [exitTo]))⟩
  · have hq' : Q (.exit j) a1 w1 := by simpa [Exit.inBlock, hj] using hq
    have hne : (id == j) = false := by simpa using Ne.symm hj
    exact ⟨.exit j, a1, w1, hq', fun k' hk => .head step_block (harr k' (by simp [exitTo, hne, hk]))⟩
 | goto l => exact ⟨_, a1, w1, hq, fun k' hk => .head step_block (harr k' (by simp [gotoIn, hk]))⟩
 | ret => exact ⟨_, a1, w1, hq, .of_steps (.one step_block) harr⟩
 | panic ch => exact ⟨_, a1, w1, hq, .of_steps (.one step_block) harr⟩
 | outgrown => exact ⟨_, a1, w1, hq, .of_steps (b := b) (k := k) (cs := cs) (e := .outgrown) (.one step_block) harr⟩
theorem aEL {P : Program} {f : FuncId} {fn : Func} {c : Code} {args : Array Value} {w : World} {R : Ending → World → Prop} (hf : P.funcs[f]? = some fn) (hb : fn.body = some c)
 (h : WpN P c (bodyPost P fn R) { tmps := args ++ Array.replicate (fn.ntmps - args.size) undef, defers := [] } w) : Calls P f args w R := by
 intro cs
 have henter : Frame.enter P f args .normal = Frame.at { (default : Frame) with fn := f, kind := .normal } { tmps := args ++ Array.replicate (fn.ntmps - args.size) undef, defers := [] } [.code c] := by
  simp [Frame.enter, Frame.at, hf, hb]
 obtain ⟨e, a', w', hq, harr⟩ := h { (default : Frame) with fn := f, kind := .normal } rfl [] cs
 rw [← henter] at harr
 cases e with
 | normal =>
  obtain ⟨hd, v, hr, hR⟩ := hq
  exact ⟨.returned v, w', _, hR, Steps.trans harr (.one step_end), rfl, rfl, hd, rfl, fn, hf, hr⟩
 | ret =>
  obtain ⟨hd, v, hr, hR⟩ := hq
  obtain ⟨todo, hs⟩ := harr
  exact ⟨.returned v, w', _, hR, hs, rfl, rfl, hd, rfl, fn, hf, hr⟩
 | panic chain =>
  obtain ⟨hd, hR⟩ := hq
  obtain ⟨todo, hs⟩ := harr
  exact ⟨.panicked chain, w', _, hR, hs, rfl, rfl, hd, fn, hf⟩
 | exit id => exact hq.elim
 | goto l => exact hq.elim
 | outgrown => exact ⟨.outgrown, w', { (default : Frame) with fn := f, kind := .normal }, hq, harr.resolve_left (by simp), rfl, trivial⟩
theorem aFO (hΘ : yP P Θ) (hm : P.follows .mixedOrders = true) : ∀ (c : Code) (QA : AEx → St → Prop) (Q : Exit → Act → World → Prop) (s : St) (a : Act) (w : World), Sim W M S0 n s a w → (∀ e s a w, Sim W M S0 n s a w → QA e s → Q (aLT e) a w) → xD P Θ n c QA s → WpN P c Q a w := by
 intro c
 induction c with
 | skip => intro QA Q s a w hs hq h; exact .of (wp_skip (hq .normal s a w hs h))
 | label l => intro QA Q s a w hs hq h; exact .of (wp_label (hq .normal s a w hs h))
 | region id ops draw =>
  intro QA Q s a w hs hq h
  rcases h with ⟨hB, h⟩ | ⟨rfl, hB, hpr, h⟩ | ⟨rfl, h⟩
  case inr.inr =>
   intro b hb k cs
   obtain ⟨e, a', w', ⟨rfl, s', hk, hs'⟩, harr⟩ := h W M S0 a w hs b hb k cs
   exact ⟨.normal, a', w', hq .normal s' a' w' hs' hk, harr⟩
  case inr.inl => exact .of <| aEE hΘ hm hpr hB hs (fun s a w hs hk => hq .normal s a w hs hk) h
  cases draw with
  | false => exact .of <| wp_region_list (jS hΘ (fun s a w hs hk => hq .normal s a w hs hk) _ _ _ _ _ hs h)
  | true =>
   have hB := hB rfl
   simp only [Region.lexB, Bool.and_eq_true] at hB
   refine .of (wp_region_any hm ?_)
   have hs' : Sim W M S0 n s a { w with drawn := w.drawn + 1 } := by
    obtain ⟨hn, hdf, S, B, V, T, h⟩ := hs
    exact ⟨hn, hdf, S, B, V, T, h.world ((Below.refl _ _).drew)⟩
   have hcl : Closed ops (Array.replicate ops.size false) := fun j o ho hl => by
    have : (Array.replicate ops.size false).getD j false = false := by simp [Array.getD_eq_getD_getElem?, Array.getElem?_replicate]; split <;> rfl
    rw [this] at hl; cases hl
   have := aDt (P := P) (Θ := Θ) (n := n) ops.toList 0 (Array.replicate ops.size false) s hcl (fun m => by
    have : (Array.replicate ops.size false).getD m false = false := by simp [Array.getD_eq_getD_getElem?, Array.getElem?_replicate]; split <;> rfl
    rw [this]; rfl) (by simp) (by simpa using hB.2) h
   exact aGJ hΘ (fun s a w hs hk => hq .normal s a w hs hk) _ _ _ _ _ hs' (by simpa using this)
 | seq x y ihx ihy =>
  intro QA Q s a w hs hq h
  rcases h with h | ⟨ι, I, h, hi⟩
  · refine WpN.seq (ihx (AEx.then (xD P Θ n y QA) QA) _ s a w hs (fun e s a w hs he => ?_) h)
    cases e with
    | normal => exact ihy QA Q s a w hs hq he
    | exit id => exact hq (.exit id) s a w hs he
    | ret => exact hq .ret s a w hs he
  · refine WpN.seq (ihx (AEx.then (fun s' => ∃ j, s'.leM (I j)) QA) _ s a w hs (fun e s a w hs he => ?_) h)
    cases e with
    | normal => obtain ⟨j, hl⟩ := he; exact ihy QA Q (I j).st a w (aE2 hs hl) hq (hi j)
    | exit id => exact hq (.exit id) s a w hs he
    | ret => exact hq .ret s a w hs he
 | cond c x y ihx ihy =>
  intro QA Q s a w hs hq h
  obtain ⟨b, hc, h⟩ := h
  have hev : a.eval c = .bool b := by
   obtain ⟨_, _, S, B, V, _, h1⟩ := hs
   exact uh h1 hc
  cases b with
  | true => exact WpN.cond hev (ihx QA Q s a w hs hq h)
  | false => exact WpN.cond hev (ihy QA Q s a w hs hq h)
 | block id c ih =>
  intro QA Q s a w hs hq h
  refine WpN.block (ih (AEx.inBlock id QA) _ s a w hs (fun e s a w hs he => ?_) h)
  cases e with
  | normal => exact hq .normal s a w hs he
  | exit j =>
   show Exit.inBlock id Q (.exit j) a w
   simp only [Exit.inBlock]
   by_cases hj : j = id
   · subst hj
     rw [if_pos rfl]
     refine hq .normal s a w hs ?_
     have : (bif Nat.beq j j then QA .normal s else QA (.exit j) s) := he
     simpa using this
   · rw [if_neg hj]
     refine hq (.exit j) s a w hs ?_
     have : (bif Nat.beq j id then QA .normal s else QA (.exit j) s) := he
     rwa [xY hj] at this
  | ret => exact hq .ret s a w hs he
 | loop c ih =>
  intro QA Q s a w hs hq h
  obtain ⟨ι, I, μ, ⟨i0, h0⟩, hround⟩ := h
  have key : ∀ m i a w, μ i = m → Sim W M S0 n (I i).st a w → ∀ (b : Frame), b.kind = .normal → ∀ (k : List Item) (cs : List Frame),
   ∃ e a' w', Q e a' w' ∧ Arrives P (lone (b.at a (.code c :: .inLoop c :: k)) cs w) b k cs e a' w' := by
   intro m
   induction m using Nat.strongRecOn with
   | _ m ihm =>
    intro i a w hmi hsi b hbk k cs
    have hb := ih (AEx.then (fun s' => ∃ j, s'.leM (I j) ∧ μ j < μ i) QA) (Exit.then (fun a' w' => ∃ j, Sim W M S0 n (I j).st a' w' ∧ μ j < μ i) Q) (I i).st a w hsi (fun e s a w hs he => by
     cases e with
     | normal => obtain ⟨j, hl, hlt⟩ := he; exact ⟨j, aE2 hs hl, hlt⟩
     | exit id => exact hq (.exit id) s a w hs he
     | ret => exact hq .ret s a w hs he) (hround i)
    obtain ⟨e, a₁, w₁, hq1, harr⟩ := hb b hbk (.inLoop c :: k) cs
    cases e with
    | normal =>
     obtain ⟨j, hsj, hlt⟩ := hq1
     obtain ⟨e₂, a₂, w₂, hq₂, harr₂⟩ := ihm (μ j) (hmi ▸ hlt) j a₁ w₁ rfl hsj b hbk k cs
     exact ⟨e₂, a₂, w₂, hq₂, .of_steps (Steps.trans harr (.one step_inLoop)) harr₂⟩
    | exit id => exact ⟨_, a₁, w₁, hq1, .pass (x := .inLoop c) rfl (fun _ _ => .inl (by simp)) harr⟩
    | goto l => exact ⟨_, a₁, w₁, hq1, .pass (x := .inLoop c) rfl (fun _ _ => .inl (by simp)) harr⟩
    | ret => exact ⟨_, a₁, w₁, hq1, .pass (x := .inLoop c) rfl (fun _ _ => .inl (by simp)) harr⟩
    | panic ch => exact ⟨_, a₁, w₁, hq1, .pass (x := .inLoop c) rfl (fun _ _ => .inl (by simp)) harr⟩
    | outgrown => exact ⟨_, a₁, w₁, hq1, .pass (x := .inLoop c) rfl (fun _ _ => .inl (by simp)) harr⟩
  intro b hbk k cs
  obtain ⟨e, a', w', hq', harr⟩ := key _ i0 a w rfl (aE2 hs h0) b hbk k cs
  exact ⟨e, a', w', hq', .of_steps (.one step_loop) harr⟩
 | exit id => intro QA Q s a w hs hq h; exact .of (wp_exit (hq (.exit id) s a w hs h))
 | ret => intro QA Q s a w hs hq h; exact .of (wp_ret (hq .ret s a w hs h))
 | rangeFunc _ _ _ _ => intro QA Q s a w hs hq h; exact h.elim
 | scope _ => intro QA Q s a w hs hq h; exact h.elim
 | goto _ => intro QA Q s a w hs hq h; exact h.elim
 | refuse _ => intro QA Q s a w hs hq h; exact h.elim
end
def rvA (s : St) : ResultVar → AV
 | .tmp t => s.sl t
 | .cell a _ => match s.sl a with
  | .optr l 0 [] 0 => match s.hp l with
   | some ob => bif ob.e.open_ then (ob.xs[0]?).getD .any else match y8 ob.e ob.xs 0 with
    | some (.o _ 0 y) => (ofO y).getD .any
    | _ => .any
   | none => .any
  | .ptr x => x
  | _ => .any
def aKM (s : St) (a : Tmp) : Prop :=
 (∃ l ob x, s.sl a = .optr l 0 [] 0 ∧ s.hp l = some ob ∧ ((ob.e.open_ = true ∧ ob.xs[0]? = some x) ∨ (ob.e.open_ = false ∧ ∃ t y, y8 ob.e ob.xs 0 = some (.o t 0 y) ∧ ofO y = some x))) ∨ ∃ x, s.sl a = .ptr x
def aGu (Θ : Tab) (s : St) : ResultVar → Prop
 | .tmp _ => True
 | .cell a t => (Θ.look t).known = true ∧ zV (rvA s (.cell a t)) = (Θ.look t).isAgg ∧ asz (rvA s (.cell a t)) = (Θ.look t).size ∧ aKM s a
def aGv (Θ : Tab) (s : St) : List ResultVar → Prop
 | [] => True
 | r :: rs => aGu Θ s r ∧ aGv Θ s rs
def aCz (s : St) (Ls : List Nat) (x y : AV) : Prop :=
 (x = mapA (fun k => Ls.getD k 0) y ∧ y.within (fun k => Nat.blt k Ls.length) = true) ∨ (xG s x = true ∧ ((yT x).all fun l => okL l && !Ls.contains l) = true ∧ y = s.dat x)
def aGr (s : St) (Ls : List Nat) : List AV → List AV → Prop
 | [], [] => True
 | x :: xs, y :: ys => aCz s Ls x y ∧ aGr s Ls xs ys
 | _, _ => False
def aAB (s : St) : List Nat → List OB → Prop
 | [], [] => True
 | l :: ls, ob :: obs => (s.hp l = some ob ∧ okL l = true ∧ ob.e.shut = true) ∧ aAB s ls obs
 | _, _ => False
def aGs (s : St) : Nat → List OB → Prop
 | _, [] => True
 | k, ob :: r => s.hp k = some ob ∧ aGs s (k + 1000000) r
def aJl (rs : List ResultVar) (v : AV) : List AV :=
 match rs with
 | [_] => [v]
 | _ => match v with | .tup ys => ys | _ => [.own 0, .own 0, .own 0, .own 0, .own 0, .own 0]
def aJh (rs : List ResultVar) (v : AV) : Prop :=
 match rs with
 | [_] => True
 | _ => ∃ ys, v = .tup ys
def Ret (Θ : Tab) (rs : List ResultVar) (rout : List OB) (out : Out) (s : St) : Prop :=
 aGs s 0 rout ∧ ∃ Ls, Ls.Nodup ∧ aAB s Ls out.obs ∧ aGv Θ s rs ∧ aJh rs out.val ∧ aGr s Ls (rs.map (rvA s)) (aJl rs out.val)
def yD (Θ : Tab) (rs : List ResultVar) (rout : List OB) (out : Out) : AEx → St → Prop
 | .normal, s | .ret, s => Ret Θ rs rout out s
 | _, _ => False
abbrev wN (Θ : Tab) (rs : List ResultVar) (out : Out) : AEx → St → Prop := yD Θ rs [] out
def St.initG (rin : List OB) (args : List AV) : St := ⟨fun j => (args[j]?).getD .any, xH 0 rin, fun _ => none⟩
abbrev St.init (args : List AV) : St := St.initG [] args
section
variable {P : Program} {Θ : Tab} {W : World} {M : Hand} {S0 : Nat → Prop} {n : Nat} {s : St} {a : Act} {w : World} {S S' : Nat → Prop} {B : Nat → Nat} {V : Nat → Value} {T : Nat → Nat → Prop} {tmps : Array Value}
theorem aKg (hΘ : yP P Θ) (h : SimW W M S0 s tmps w S B V T) (r : ResultVar) (hr : aGu Θ s r) :
 ∃ v, (match r with | .tmp t => pure (tmps.getD t undef) | .cell a t => do loadVar t (← asAddr (tmps.getD a undef)) : Sem Value).run P w = .ok v w ∧ RV S w s.hp B V (rvA s r) v := by
 cases r with
 | tmp t => exact ⟨_, rfl, h.sl t⟩
 | cell a t =>
  obtain ⟨hk, hagg, hsz, hx⟩ := hr
  obtain ⟨i0, hi0, hs0, hag, _⟩ := jc (hΘ t) hk
  have hsl := h.sl a
  rcases hx with ⟨l, ob, x, hx, ho, hq⟩ | ⟨x, hx⟩
  · rw [hx] at hsl
    unfold RV at hsl
    obtain ⟨ob', ho', hpx⟩ := hsl
    rw [ho] at ho'; cases ho'
    simp only [Nat.zero_mul, Nat.zero_add] at hpx
    have hro := h.rows.ro l ob ho
    rcases hq with ⟨hop, hq⟩ | ⟨hop, t', y, hoe, hof⟩
    · have hrv : rvA s (.cell a t) = x := by simp [rvA, hx, ho, hq, hop]
      rw [hrv] at hagg hsz ⊢
      have hne : ob.xs ≠ [] := fun e => by rw [e] at hq; simp at hq
      obtain ⟨tt, cs, cap, cur, h0, hr, ha, hpos, hV, hheap, hc, hm, hs, ht⟩ := hro.block hne
      have hr' : RL S w ob.xs cs := by
       cases hoe : ob.e with
       | s _ => rw [hoe] at hr; exact hr
       | z _ => rw [hoe] at hr; exact RDL.toRL _ _ _ (fun g hg => (hr.1 g hg).elim) hr.2
       | _ => rw [hoe] at hop; cases hop
      obtain ⟨qs, k1, k2, k3, k4⟩ := RL.at 0 hr' hq
      have hcell : ∀ j u, qs[j]? = some u → w.cell? ⟨B l, 0 + j, none⟩ = some u := fun j u hu => by
       have h1 := k4 _ _ hu
       simp only [List.take_zero, xB] at h1
       exact wX hheap ht h1
      obtain ⟨u, hu, eu, h1⟩ := ql (s := s) (B := B) (V := V) k1 hagg
      have hrun := uR (P := P) (w := w) t hi0 (by rw [hs0, ← hsz]; exact (RA.size _ _ k1).symm) hcell (hag w) h1
      rw [eu] at hrun
      refine ⟨u, ?_, hu⟩
      simp only [hpx, asAddr, Sem.run_bind, Sem.run_pure, Result.andThen_ok]
      simpa [Instr.loadAt, Instr.sureAddr] using hrun
    · have hrv : rvA s (.cell a t) = x := by simp [rvA, hx, ho, hop, hoe, hof]
      rw [hrv] at hagg hsz ⊢
      obtain ⟨tt, cs, cap, cur, h0, hr, ha, hpos, hV, hheap, hc, hm, hs, ht⟩ := hro.block (hro.opn hoe)
      obtain ⟨_, hty, hr1⟩ := RK.opn ha hoe hr
      obtain ⟨vs, T1, Tr, k1, k2, k3, k4, k5⟩ := hr1.focus (p := []) (c := 0) (z := y) ha (by simp [xU])
      have hcell : ∀ j u, vs[j]? = some u → w.cell? ⟨B l, 0 + j, none⟩ = some u := fun j u hu => wX hheap ht (by have := k4 j u hu; simpa using this)
      obtain ⟨u, hu, eu, h1⟩ := RV.ofO k1 hof
      have hrun := uR (P := P) (w := w) t hi0 (by rw [hs0, ← hsz, aFm hof]; exact (RO1.size _ _ _ k1).symm) hcell (hag w) (by rw [← hagg]; exact h1)
      rw [← hagg, eu] at hrun
      refine ⟨u, ?_, hu⟩
      simp only [hpx, asAddr, Sem.run_bind, Sem.run_pure, Result.andThen_ok]
      simpa [Instr.loadAt, Instr.sureAddr] using hrun
  · have hrv : rvA s (.cell a t) = x := by simp [rvA, hx]
    rw [hrv] at hagg hsz ⊢
    rw [hx] at hsl
    unfold RV at hsl
    unfold RA at hsl
    obtain ⟨b, off, us, e, hb, hr, hc⟩ := hsl
    simp only [List.cons.injEq, and_true] at e
    obtain ⟨u, hu, eu, h1⟩ := ql (s := s) (B := B) (V := V) hr hagg
    have hrun := uR (P := P) (w := w) t hi0 (by rw [hs0, ← hsz]; exact (RA.size _ _ hr).symm) hc (hag w) h1
    rw [eu] at hrun
    refine ⟨u, ?_, hu⟩
    simp only [e, asAddr, Sem.run_bind, Sem.run_pure, Result.andThen_ok]
    simpa [Instr.loadAt, Instr.sureAddr] using hrun
theorem aGF (hΘ : yP P Θ) (h : SimW W M S0 s tmps w S B V T) : ∀ (rs : List ResultVar), aGv Θ s rs →
 ∃ vs, (rs.mapM (fun | .tmp t => pure (tmps.getD t undef) | .cell a t => do loadVar t (← asAddr (tmps.getD a undef)) : ResultVar → Sem Value)).run P w = .ok vs w ∧ RVs S w s.hp B V (rs.map (rvA s)) vs ∧ vs.length = rs.length
 | [], _ => ⟨[], by simp, by simp only [List.map_nil]; unfold RVs; rfl, rfl⟩
 | r :: rs, hr => by
  obtain ⟨v, h1, h2⟩ := aKg hΘ h r hr.1
  obtain ⟨vs, h3, h4, h5⟩ := aGF hΘ h rs hr.2
  refine ⟨v :: vs, ?_, by simp only [List.map_cons]; unfold RVs; exact ⟨v, vs, rfl, h2, h4⟩, by simp [h5]⟩
  simp only [List.mapM_cons, Sem.run_bind, h1, Result.andThen_ok, h3, Sem.run_pure]
theorem aD7 : ∀ (Ls : List Nat) (obs : List OB), aAB s Ls obs → ∀ (k : Nat) (ob : OB), obs[k]? = some ob → ∃ l, Ls[k]? = some l ∧ s.hp l = some ob ∧ okL l = true ∧ ob.e.shut = true
 | [], [], _, k, ob, h => by simp at h
 | [], _ :: _, h, _, _, _ => h.elim
 | _ :: _, [], h, _, _, _ => h.elim
 | l :: ls, o :: obs, h, 0, ob, e => by simp at e; subst e; exact ⟨l, rfl, h.1⟩
 | l :: ls, o :: obs, h, k + 1, ob, e => by simpa using aD7 ls obs h.2 k ob (by simpa using e)
theorem aBd : ∀ (Ls : List Nat) (obs : List OB), aAB s Ls obs → ∀ (k l : Nat), Ls[k]? = some l → ∃ ob, obs[k]? = some ob ∧ s.hp l = some ob ∧ okL l = true
 | [], [], _, k, l, h => by simp at h
 | [], _ :: _, h, _, _, _ => h.elim
 | _ :: _, [], h, _, _, _ => h.elim
 | l :: ls, o :: obs, h, 0, l', e => by simp at e; subst e; exact ⟨o, rfl, h.1.1, h.1.2.1⟩
 | l :: ls, o :: obs, h, k + 1, l', e => by simpa using aBd ls obs h.2 k l' (by simpa using e)
theorem aEq : ∀ (rout : List OB) (b l : Nat) (ob : OB), aGs s b rout → xH b rout l = some ob → s.hp l = some ob
 | [], b, l, ob, _, h => by simp [xH] at h
 | o :: obs, b, l, ob, hr, h => by
  simp only [xH] at h
  by_cases e : l = b
  · subst e; simp at h; subst h; exact hr.1
  · rw [xY e] at h; exact aEq obs _ l ob hr.2 h
theorem aG1 {rin : List OB} {l : Nat} {ob : OB} (h : xH 0 rin l = some ob) : okL l = false := by
 obtain ⟨k, h1, _⟩ := wF rin 0 l ob h
 subst h1
 cases k with
 | zero => rfl
 | succ k =>
  have : Nat.blt (0 + 1000000 * (k + 1)) 1000000 = false := by
   cases hb : Nat.blt (0 + 1000000 * (k + 1)) 1000000 with
   | false => rfl
   | true => have := Nat.lt_of_lt_of_le (Nat.lt_succ_self _) (Nat.le_of_ble_eq_true hb); omega
  unfold okL; rw [this, Bool.and_false]
theorem aKf (h : SimW W M S0 s tmps w S B V T) {Ls : List Nat} {obs : List OB} (ho : aAB s Ls obs) (hm : ∀ b, S b → S' b) (hS : ∀ l ob g, okL l = true → l ∉ Ls → s.hp l = some ob → Blk V T l g → S' g) {x y : AV} {u : Value} (hr : aCz s Ls x y) (hx : RV S w s.hp B V x u) :
 RV S' w (zh obs) (fun k => B (Ls.getD k 0)) (fun k => V (Ls.getD k 0)) y u := by
 rcases hr with ⟨rfl, hw⟩ | ⟨hd, hn, rfl⟩
 · have := (RV.map (S := S) (w := w) (hp := zh obs) (hp' := s.hp) (B := fun k => B (Ls.getD k 0)) (B' := B) (V := fun k => V (Ls.getD k 0)) (V' := V) (ρ := fun k => Ls.getD k 0) y u (fun k hk => by
    have := uZ y hw hk
    have hlt : k < Ls.length := Nat.le_of_ble_eq_true this
    obtain ⟨ob, h1, h2, _⟩ := aBd Ls obs ho k _ (List.getElem?_eq_getElem hlt)
    have hg : Ls.getD k 0 = Ls[k] := by simp [List.getD, List.getElem?_eq_getElem hlt]
    exact ⟨ob, ob, h1, by show s.hp (Ls.getD k 0) = _; rw [hg]; exact h2, rfl, rfl, rfl⟩)).2 hx
   exact RV.carry hm (fun _ _ => rfl) _ _ (fun l _ => Same.refl l) this
 · refine (vw h hm (fun l hl ob hob _ g hg => ?_) hd hx).1
   have := List.all_eq_true.1 hn l hl
   simp only [Bool.and_eq_true, Bool.not_eq_true', List.contains_eq_mem, decide_eq_false_iff_not] at this
   exact hS l ob g this.1 this.2 hob hg
theorem aGA (h : SimW W M S0 s tmps w S B V T) {Ls : List Nat} {obs : List OB} (ho : aAB s Ls obs) (hm : ∀ b, S b → S' b) (hS : ∀ l ob g, okL l = true → l ∉ Ls → s.hp l = some ob → Blk V T l g → S' g) : ∀ (xs ys : List AV) (us : List Value), aGr s Ls xs ys → RVs S w s.hp B V xs us →
 RVs S' w (zh obs) (fun k => B (Ls.getD k 0)) (fun k => V (Ls.getD k 0)) ys us
 | [], [], us, _, hx => by unfold RVs at hx ⊢; exact hx
 | [], _ :: _, us, h, _ => h.elim
 | _ :: _, [], us, h, _ => h.elim
 | x :: xs, y :: ys, us, hr, hx => by
  unfold RVs at hx ⊢
  obtain ⟨u, us', e, h1, h2⟩ := hx
  exact ⟨u, us', e, aKf h ho hm hS hr.1 h1, aGA h ho hm hS xs ys us' hr.2 h2⟩
theorem RVs.len {hp : Nat → Option OB} : ∀ (xs : List AV) (us : List Value), RVs S w hp B V xs us → us.length = xs.length
 | [], us, h => by unfold RVs at h; rw [h]; rfl
 | x :: xs, us, h => by unfold RVs at h; obtain ⟨u, us', rfl, _, h2⟩ := h; simp [RVs.len xs us' h2]
theorem RVs.get {hp : Nat → Option OB} : ∀ (xs : List AV) (us : List Value) (j : Nat), RVs S w hp B V xs us → RV S w hp B V ((xs[j]?).getD .any) ((us[j]?).getD undef)
 | [], us, j, h => by show RV _ _ _ _ _ .any _; unfold RV; trivial
 | x :: xs, us, j, h => by
  unfold RVs at h
  obtain ⟨u, us', rfl, h1, h2⟩ := h
  cases j with
  | zero => exact h1
  | succ j => simpa using RVs.get xs us' j h2
theorem aI7 (l : List Value) (k t : Nat) : (l.toArray ++ Array.replicate k undef).getD t undef = (l[t]?).getD undef := by
 simp only [Array.getD_eq_getD_getElem?, Array.getElem?_append, List.size_toArray]
 by_cases ht : t < l.length
 · simp [ht]
 · simp [ht, Array.getElem?_replicate]
   split <;> rfl
theorem aED (hΘ : yP P Θ) (hm : P.follows .mixedOrders = true) {f : FuncId} {fn : Func} {c : Code} {n : Nat} {rs : List ResultVar} (hf : P.funcs[f]? = some fn) (hb : fn.body = some c) (hnt : fn.ntmps = n) (hrs : fn.results.toList = rs) (hnm : (fn.name == "runtime.NumGoroutine") = false)
 {args : List AV} {rin rout : List OB} {out : Out} (hlen : args.length ≤ n) (hrl : rout.length = rin.length) (hwr : (rout.all fun ob => uT (fun l => (xH 0 rout l).isSome) ob.e) = true) (h : xD P Θ n c (yD Θ rs rout out) (St.initG rin args)) : ACG P f args rin rout out := by
 refine ⟨fun vs w => by simp only [callFunc, Sem.run_bind, run_program, Result.andThen_ok, hf, hnm, hb]; rfl, fun w S0 B0 V0 T0 vs hS0 hG hrows hargs => ?_⟩
 have hvl := RVs.len _ _ hargs
 let M : Hand := ⟨HB (xH 0 rin) V0 T0, fun l => (xH 0 rin l).map fun _ => (B0 l, V0 l)⟩
 have hsim : Sim w M S0 n (St.initG rin args) { tmps := vs.toArray ++ Array.replicate (fn.ntmps - vs.toArray.size) undef, defers := [] } w := by
  refine ⟨by simp; omega, rfl, S0, B0, V0, T0, ⟨Grown.refl _ _, fun _ h => h, fun b hb => ⟨hS0 b hb, .inl hb⟩, fun t => ?_, ⟨hrows.ro, fun l ob g ho hg => ⟨(hrows.me l ob g ho hg).1, (hrows.me l ob g ho hg).2.1, .inr ⟨l, ob, ho, hg⟩⟩, hrows.nd, hrows.ds, fun l es e => by cases e⟩, fun l b u e => ?_, ⟨fun b hb => ⟨fun ⟨l, ob, ho, hb'⟩ => (hrows.me l ob b ho hb').1 hb, hS0 b hb⟩, hG⟩⟩⟩
  · rw [aI7]; exact RVs.get args vs t hargs
  · obtain ⟨ob, ho, e⟩ := Option.map_eq_some_iff.1 e
    cases e
    exact ⟨aG1 ho, rfl, rfl⟩
 refine aEL hf hb (aFO (M := M) (W := w) (S0 := S0) hΘ hm c (yD Θ rs rout out) _ _ _ _ hsim (fun e s a w' hs he => ?_) h)
 have hmain : Ret Θ rs rout out s → a.defers = [] ∧ ∃ v, (results fn a.tmps).run P w' = .ok v w' ∧ ∃ v' S B V T T1, Ending.returned v = .returned v' ∧ Grown w w' (HB (xH 0 rin) V0 T0) ∧ (∀ b, S0 b → S b) ∧ (∀ b, S b → b < w'.heap.size ∧ (S0 b ∨ w.heap.size ≤ b ∨ HB (xH 0 rin) V0 T0 b)) ∧
  RV S w' (zh out.obs) B V out.val v' ∧ Rows S w' (zh out.obs) (fun _ => none) B V T (fun g => w.heap.size ≤ g ∨ HB (xH 0 rin) V0 T0 g) ∧
  Rows S w' (xH 0 rout) (fun _ => none) B0 V0 T1 (fun g => w.heap.size ≤ g ∨ HB (xH 0 rin) V0 T0 g) ∧
  ∀ l l' ob ob' g, zh out.obs l = some ob → xH 0 rout l' = some ob' → Blk V T l g → ¬ Blk V0 T1 l' g := by
  rintro ⟨hin, Ls, hnd, hobs, hrvs, htup, hret⟩
  obtain ⟨hn, hdf, S, B, V, T, hw⟩ := hs
  obtain ⟨us, hrun, hrv, hul⟩ := aGF hΘ hw rs hrvs
  let S' : Nat → Prop := fun g => S g ∨ ∃ l ob, okL l = true ∧ l ∉ Ls ∧ s.hp l = some ob ∧ Blk V T l g
  have hm' : ∀ b, S b → S' b := fun b hb => .inl hb
  have hrets := aGA (S' := S') hw hobs hm' (fun l ob g h1 h2 h3 h4 => .inr ⟨l, ob, h1, h2, h3, h4⟩) _ _ us hret hrv
  have hhd : ∀ l ob, xH 0 rout l = some ob → s.hp l = some ob ∧ B l = B0 l ∧ V l = V0 l ∧ okL l = false := fun l ob e => by
   have h1 := aEq rout 0 l ob hin e
   obtain ⟨k, e1, e2⟩ := wF rout 0 l ob e
   have hlt : k < rin.length := by rw [← hrl]; exact (List.getElem?_eq_some_iff.1 e2).1
   have h2 : xH 0 rin l = some rin[k] := by rw [e1, aBV]; exact List.getElem?_eq_getElem hlt
   obtain ⟨q1, q2, q3⟩ := hw.pin l (B0 l) (V0 l) (by show (xH 0 rin l).map _ = _; rw [h2]; rfl)
   exact ⟨h1, q2, q3, q1⟩
  have hnot : ∀ j o g, s.hp j = some o → Blk V T j g → (j ∈ Ls ∨ okL j = false) → ¬ S' g := fun j o g ho hg hj hs => by
   rcases hs with hs | ⟨l', ob', hk, hno, ho2, hg'⟩
   · exact (hw.rows.me j o g ho hg).1 hs
   · have := hw.rows.ds j l' o ob' g ho ho2 hg hg'
     subst this
     rcases hj with hj | hj
     · exact hno hj
     · rw [hk] at hj; cases hj
  have hLs : ∀ k ob, zh out.obs k = some ob → ∃ l, Ls[k]? = some l ∧ s.hp l = some ob ∧ okL l = true ∧ ob.e.shut = true ∧ Ls.getD k 0 = l := fun k ob e => by
   obtain ⟨l, h1, h2, h3, h4⟩ := aD7 Ls _ hobs k ob e
   exact ⟨l, h1, h2, h3, h4, by simp [List.getD, h1]⟩
  have hblk : ∀ k g, Blk (fun k => V (Ls.getD k 0)) (fun k => T (Ls.getD k 0)) k g = Blk V T (Ls.getD k 0) g := fun k g => rfl
  refine ⟨hdf, (if h : us.toArray.size = 1 then us.toArray[0] else .tuple us.toArray), ?_, _, S', fun k => B (Ls.getD k 0), fun k => V (Ls.getD k 0), fun k => T (Ls.getD k 0), T, rfl, hw.below, fun b hb => .inl (hw.s0 b hb), fun b hb => ?_, ?_, ⟨fun k ob ho => ?_, fun k ob g ho hg => ?_, fun k ob g ho hg => ?_, fun k k' o1 o2 g h1 h2 e1 e2 => ?_, fun l es e => by cases e⟩, ⟨fun l ob ho => ?_, fun l ob g ho hg => ?_, fun l ob g ho hg => ?_, fun l l' o1 o2 g h1 h2 e1 e2 => ?_, fun l es e => by cases e⟩, fun k l o1 o2 g h1 h2 e1 e2 => ?_⟩
  · have hmp : (fn.results.mapM (fun | .tmp t => pure (a.tmps.getD t undef) | .cell a' t => do loadVar t (← asAddr (a.tmps.getD a' undef)) : ResultVar → Sem Value)).run P w' = .ok us.toArray w' := by
     rw [Array.mapM_eq_mapM_toList, hrs]
     simp only [Sem.run_map, hrun, Result.andThen_ok]
    unfold results
    rw [Sem.run_bind]
    exact (congrArg (fun r => Result.andThen r fun (a : Array Value) w' => Sem.run P (pure (if h : a.size = 1 then a[0] else Value.tuple a)) w') hmp).trans rfl
  · rcases hb with hb | ⟨l, ob, _, _, ho, hg⟩
    · exact hw.slt b hb
    · exact ⟨(hw.rows.me l ob b ho hg).2.1, .inr (hw.rows.me l ob b ho hg).2.2⟩
  · match rs, us, hul, htup, hrets with
    | [r], [u], _, _, hq =>
     have : RVs _ _ _ _ _ [out.val] [u] := hq
     unfold RVs at this
     obtain ⟨u', us', e, h1, _⟩ := this
     cases e
     exact h1
    | [], us, hul, htup, hq =>
     obtain ⟨ys, hy⟩ := htup
     have : us = [] := List.eq_nil_of_length_eq_zero hul
     subst this
     rw [hy] at hq ⊢
     unfold RV
     exact ⟨[], by simp, hq⟩
    | r1 :: r2 :: rest, us, hul, htup, hq =>
     obtain ⟨ys, hy⟩ := htup
     rw [hy] at hq ⊢
     unfold RV
     have hne : ¬ us.toArray.size = 1 := by simp only [List.size_toArray]; rw [hul]; simp
     rw [dif_neg hne]
     exact ⟨us, rfl, hq⟩
  · obtain ⟨l, h1, h2, h3, h4, h5⟩ := hLs k ob ho
    simp only [h5]
    exact ((hw.rows.ro l ob h2).carry hm' (fun _ _ => rfl) (fun j _ => Same.refl j) (fun _ _ => rfl) (fun _ _ => rfl)).any h4
  · obtain ⟨l, h1, h2, h3, h4, h5⟩ := hLs k ob ho
    rw [hblk, h5] at hg
    exact ⟨hnot l ob g h2 hg (.inl (List.mem_of_getElem? h1)), (hw.rows.me l ob g h2 hg).2⟩
  · obtain ⟨l, h1, h2, h3, h4, h5⟩ := hLs k ob ho
    simp only [h5] at hg ⊢
    exact hw.rows.nd l ob g h2 hg
  · obtain ⟨l, a1, a2, a3, a4, a5⟩ := hLs k o1 h1
    obtain ⟨l', b1, b2, b3, b4, b5⟩ := hLs k' o2 h2
    rw [hblk, a5] at e1
    rw [hblk, b5] at e2
    have := hw.rows.ds l l' o1 o2 g a2 b2 e1 e2
    subst this
    exact aAV hnd a1 b1
  · obtain ⟨h1, h2, h3, h4⟩ := hhd l ob ho
    rw [← h2, ← h3]
    obtain ⟨k, _, hk⟩ := wF rout 0 l ob ho
    refine (hw.rows.ro l ob h1).carry hm' (fun _ _ => rfl) (fun j hj o hjo => ?_) (fun _ _ => rfl) (fun _ _ => rfl)
    have := wR (List.all_eq_true.1 hwr ob (List.mem_of_getElem? hk)) hj
    obtain ⟨o', ho'⟩ := Option.isSome_iff_exists.1 this
    obtain ⟨q1, q2, q3, _⟩ := hhd j o' ho'
    rw [q1] at hjo; cases hjo
    exact ⟨_, ho', rfl, q3.symm, q2.symm⟩
  · obtain ⟨h1, h2, h3, h4⟩ := hhd l ob ho
    have hg' : Blk V T l g := by unfold Blk at hg ⊢; rw [h3]; exact hg
    exact ⟨hnot l ob g h1 hg' (.inr h4), (hw.rows.me l ob g h1 hg').2⟩
  · obtain ⟨h1, h2, h3, h4⟩ := hhd l ob ho
    rw [← h3] at hg
    exact hw.rows.nd l ob g h1 hg
  · obtain ⟨a1, a2, a3, a4⟩ := hhd l o1 h1
    obtain ⟨b1, b2, b3, b4⟩ := hhd l' o2 h2
    exact hw.rows.ds l l' o1 o2 g a1 b1 (by unfold Blk at e1 ⊢; rw [a3]; exact e1) (by unfold Blk at e2 ⊢; rw [b3]; exact e2)
  · obtain ⟨l0, a1, a2, a3, a4, a5⟩ := hLs k o1 h1
    obtain ⟨b1, b2, b3, b4⟩ := hhd l o2 h2
    rw [hblk, a5] at e1
    have := hw.rows.ds l0 l o1 o2 g a2 b1 e1 (by unfold Blk at e2 ⊢; rw [b3]; exact e2)
    subst this
    rw [a3] at b4; cases b4
 cases e with
 | normal => exact hmain he
 | ret => exact hmain he
 | exit id => exact he.elim
end
end Go.Proofs.YtodckioppgjbdaaGreatDoor.AM
