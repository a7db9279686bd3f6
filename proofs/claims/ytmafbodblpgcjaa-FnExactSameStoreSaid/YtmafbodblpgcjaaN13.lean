/- The machine over data, second make (N13): ghost steps; what a body does; weaker states. -/
import Derived.Test.YtmafbodblpgcjaaN12
import Derived.Orders
import Derived.Tactics
namespace Go.Proofs.Ytmafbodblpgcjaa.AM
open Go Go.RowKit
set_option linter.unusedVariables false
set_option linter.unusedSimpArgs false

/-- steps that do nothing: what is known of the rows is told otherwise -/
inductive Gh (K : St → Prop) : St → Prop
  | done {s : St} : K s → Gh K s
  | opn {s : St} (l i : Nat) {ob : OB} {e' : ET} : s.hp l = some ob → openE ob.e ob.xs i = some e' → Gh K (s.set l (some ⟨e', ob.sz, ob.xs⟩)) → Gh K s
  | shut {s : St} (l : Nat) {t : Option Nat} {i sz : Nat} {y z y' : AV} {xs : List AV} : s.hp l = some ⟨.o t i y, sz, xs⟩ → shutA z y = some y' → Gh K (s.set l (some ⟨.shutd t, sz, xs.set i y'⟩)) → Gh K s
  | fold {s : St} (l l' : Nat) (p : List Nat) {t : Option Nat} {i sz c : Nat} {y : AV} {xs : List AV} {ob' : OB} : s.hp l = some ⟨.o t i y, sz, xs⟩ → getP y p 0 = some (.own l', c) → Nat.beq l' l = false → okL l' = true → s.hp l' = some ob' → ob'.e.deep = true →
      Gh K ((s.drop l').set l (some ⟨.o t i (killA l' (setM y p (.lst ob'.sz ob'.xs))), sz, xs⟩)) → Gh K s
  | unfold {s : St} (l i L : Nat) (p : List Nat) {ob : OB} {t' : Option Nat} {y : AV} {sz' c : Nat} {xs' : List AV} : s.hp l = some ob → openE ob.e ob.xs i = some (.o t' i y) → getP y p 0 = some (.lst sz' xs', c) → okL L = true → s.hp L = none →
      Gh K ((s.set l (some ⟨.o t' i (setM y p (.own L)), ob.sz, ob.xs⟩)).set L (some ⟨.u, sz', xs'⟩)) → Gh K s
  | nilx {s : St} (l i L : Nat) (p : List Nat) (ek : ET) (sz' : Nat) {ob : OB} {t' : Option Nat} {y : AV} {c : Nat} : s.hp l = some ob → openE ob.e ob.xs i = some (.o t' i y) → getP y p 0 = some (.v (.slice none 0 0), c) → okL L = true → s.hp L = none → ek.shut = true → 0 < sz' →
      Gh K ((s.set L (some ⟨ek, sz', []⟩)).set l (some ⟨.o t' i (setM y p (.own L)), ob.sz, ob.xs⟩)) → Gh K s
  | frz {s : St} (l : Nat) : okL l = true → Gh K (s.frz l) → Gh K s
  | drop {s : St} (l : Nat) : okL l = true → Gh K (s.drop l) → Gh K s
  | give {s : St} (l : Nat) {t sz : Nat} {xs : List AV} {e : ET} : s.hp l = some ⟨e, sz, xs⟩ → (e = .d t ∨ e = .z t) → okL l = true → Gh K (s.set l (some ⟨.s t, sz, xs⟩)) → Gh K s
  | z2d {s : St} (l : Nat) {t sz : Nat} {xs : List AV} : s.hp l = some ⟨.z t, sz, xs⟩ → Gh K (s.set l (some ⟨.d t, sz, xs⟩)) → Gh K s
  | s2d {s : St} (l : Nat) {t sz : Nat} {xs : List AV} : s.hp l = some ⟨.s t, sz, xs⟩ → (∀ x ∈ xs, noLst x = true) → Gh K (s.set l (some ⟨.d t, sz, xs⟩)) → Gh K s
  | d2s {s : St} (l : Nat) {t sz : Nat} {xs : List AV} : s.hp l = some ⟨.d t, sz, xs⟩ → (∀ x ∈ xs, noLst x = true) → Gh K (s.set l (some ⟨.s t, sz, xs⟩)) → Gh K s
theorem RL.allRD {S : Nat → Prop} {w : World} : ∀ (xs : List AV) (cs : List Value), (∀ x ∈ xs, noLst x = true) → RL S w xs cs → RDL w xs Fa cs
  | [], cs, _, h => by unfold RL at h; unfold RDL; exact ⟨h, noF⟩
  | x :: xs, cs, hx, h => by
    unfold RL at h
    obtain ⟨c1, c2, e, h1, h2⟩ := h
    unfold RDL
    exact ⟨c1, c2, Fa, Fa, e, Split.l0 noF, RA.toRD noF _ _ (hx x (by simp)) h1, RL.allRD xs c2 (fun y hy => hx y (List.mem_cons_of_mem _ hy)) h2⟩
theorem RDL.allRL {S : Nat → Prop} {w : World} {T : Nat → Prop} : ∀ (xs : List AV) (T : Nat → Prop) (cs : List Value), (∀ x ∈ xs, noLst x = true) → RDL w xs T cs → RL S w xs cs
  | [], T, cs, _, h => by unfold RDL at h; unfold RL; exact h.1
  | x :: xs, T, cs, hx, h => by
    unfold RDL at h
    obtain ⟨c1, c2, T1, T2, e, _, h1, h2⟩ := h
    unfold RL
    exact ⟨c1, c2, e, (RD.plain _ _ _ (hx x (by simp)) h1).2 S w, RDL.allRL (T := T) xs T2 c2 (fun y hy => hx y (List.mem_cons_of_mem _ hy)) h2⟩
section
variable {P : Program} {Θ : Tab} {W : World} {M : Hand} {S0 : Nat → Prop} {n : Nat} {s : St} {a : Act} {w : World} {K : St → Prop}
theorem shutd_typ (t : Option Nat) : (ET.shutd t).typ = t := by cases t <;> rfl
theorem gh_sim (h : Gh K s) : Sim W M S0 n s a w → ∃ s', K s' ∧ Sim W M S0 n s' a w := by
  induction h with
  | done h => exact fun hs => ⟨_, h, hs⟩
  | opn l i ho hop _ ih =>
    rintro ⟨hn, hdf, S, B, V, T, h⟩
    rename_i s ob e' _
    obtain ⟨T', h'⟩ := h.kind (ob' := ⟨e', ob.sz, ob.xs⟩) ho rfl (fun t' e => by
      obtain ⟨_, _, _, hr, ha, _⟩ := h.rows.ro _ _ ho
      have := (RK.opn ha hop hr).2.1
      rw [← this]; exact e) rfl (fun ha cs hr => ⟨ha, T l, fun _ h => h, (RK.opn ha hop hr).2.2⟩)
    exact ih ⟨hn, hdf, S, B, V, T', h'⟩
  | shut l ho hy _ ih =>
    rintro ⟨hn, hdf, S, B, V, T, h⟩
    rename_i s t i sz y z y' xs _
    obtain ⟨T', h'⟩ := h.kind (ob' := ⟨.shutd t, sz, xs.set i y'⟩) ho rfl (fun t' e => by rw [shutd_typ] at e; exact e) set_len (fun ha cs hr => by
      obtain ⟨k1, k2⟩ := RK.shut hy hr
      refine ⟨fun x hx => ?_, T l, fun _ h => h, by cases t <;> exact k1⟩
      rcases List.mem_or_eq_of_mem_set hx with hx | hx
      · exact ha x hx
      · rw [hx]; exact k2)
    exact ih ⟨hn, hdf, S, B, V, T', h'⟩
  | fold l l' p ho hg hne hok ho' hd _ ih =>
    rintro ⟨hn, hdf, S, B, V, T, h⟩
    obtain ⟨T', h'⟩ := h.fold ho hg (fun e => by rw [e] at hne; simp at hne) hok ho' hd
    exact ih ⟨hn, hdf, S, B, V, T', h'⟩
  | unfold l i L p ho hop hg hok hf _ ih =>
    rintro ⟨hn, hdf, S, B, V, T, h⟩
    obtain ⟨v, B', V', T', _, _, h', _⟩ := h.unfold ho hop hg hok hf
    exact ih ⟨hn, hdf, S, B', V', T', h'⟩
  | nilx l i L p ek sz' ho hop hg hok hf hek h0 _ ih =>
    rintro ⟨hn, hdf, S, B, V, T, h⟩
    rename_i s ob t' y c _
    obtain ⟨n1, n2⟩ := fresh_names h hf
    obtain ⟨te, hte⟩ := typ_some ek
    have h1 := h.repl (w' := w) (ob' := ⟨ek, sz', []⟩) (b' := 0) (v' := .slice none 0 0) (T' := Fa) hok n1 (fun j o _ ho => n2 j o ho) (Grown.refl _ _) ⟨te, [], hte, RK.nil hek, by simp, h0, World.ownsRow_nil _ _ _ _, fun g hg => by simp [Value.ownBlock] at hg⟩ (fun g hg => by
      rcases hg with hg | hg
      · simp [Value.ownBlock] at hg
      · exact hg.elim) (fun g hg => by simp [Value.ownBlock] at hg)
    have hlL : l ≠ L := fun e => by rw [e, hf] at ho; cases ho
    have ho1 : (s.set L (some ⟨ek, sz', []⟩)).hp l = some ob := by rw [set_hpn hlL]; exact ho
    obtain ⟨T', h'⟩ := h1.kind (ob' := ⟨.o t' i (setM y p (.own L)), ob.sz, ob.xs⟩) ho1 rfl (fun t2 e => by
      obtain ⟨_, _, _, hr, ha, _⟩ := h.rows.ro _ _ ho
      have := (RK.opn ha hop hr).2.1
      rw [← this]; exact e) rfl (fun ha cs hr => by
      obtain ⟨_, _, hr1⟩ := RK.opn ha hop hr
      obtain ⟨vs, T1, Tr, k1, k2, k3, k4, k5⟩ := hr1.focus ha hg
      unfold RO1 at k1
      unfold RD at k1
      obtain ⟨hT1, rfl, _⟩ := k1
      have := k5 (.own L) [.slice none 0 0] Fa (upd T L Fa l) rfl (by unfold RO1; exact ⟨noF, ⟨_, set_hp⟩, by rw [upd_same], by rw [upd_same]; rfl⟩) (by rw [k2.eqr hT1]; exact Split.l0 noF)
      rw [splice_self k4 k3] at this
      exact ⟨ha, _, fun _ h => h, this⟩)
    exact ih ⟨hn, hdf, S, _, _, T', h'⟩
  | frz l hok _ ih =>
    rintro ⟨hn, hdf, S, B, V, T, h⟩
    obtain ⟨S', _, h', _⟩ := h.frz l hok
    exact ih ⟨hn, hdf, S', B, V, T, h'⟩
  | drop l hok _ ih =>
    rintro ⟨hn, hdf, S, B, V, T, h⟩
    exact ih ⟨hn, hdf, S, B, V, T, h.drop l hok⟩
  | give l ho he hok _ ih =>
    rintro ⟨hn, hdf, S, B, V, T, h⟩
    obtain ⟨S', T', _, h'⟩ := h.give ho he hok
    exact ih ⟨hn, hdf, S', B, V, T', h'⟩
  | z2d l ho _ ih =>
    rintro ⟨hn, hdf, S, B, V, T, h⟩
    obtain ⟨T', h'⟩ := h.kind (ob' := ⟨.d _, _, _⟩) ho rfl (fun t' e => e) rfl (fun ha cs hr => ⟨ha, T l, fun _ h => h, hr.2⟩)
    exact ih ⟨hn, hdf, S, B, V, T', h'⟩
  | s2d l ho hx _ ih =>
    rintro ⟨hn, hdf, S, B, V, T, h⟩
    obtain ⟨T', h'⟩ := h.kind (ob' := ⟨.d _, _, _⟩) ho rfl (fun t' e => e) rfl (fun ha cs hr => ⟨ha, Fa, fun g hg => hg.elim, RL.allRD _ _ hx hr⟩)
    exact ih ⟨hn, hdf, S, B, V, T', h'⟩
  | d2s l ho hx _ ih =>
    rintro ⟨hn, hdf, S, B, V, T, h⟩
    obtain ⟨T', h'⟩ := h.kind (ob' := ⟨.s _, _, _⟩) ho rfl (fun t' e => e) rfl (fun ha cs hr => ⟨ha, Fa, fun g hg => hg.elim, RDL.allRL (T := Fa) _ _ _ hx hr⟩)
    exact ih ⟨hn, hdf, S, B, V, T', h'⟩
end

/-- is the operation at place k ordered against every other of the region? -/
def tied (ops : Array Oper) (k : Nat) : Bool :=
  let b := Region.before ops
  (List.range ops.size).all fun j => Nat.beq j k || (bif Nat.blt j k then (b.getD k 0).testBit j else (b.getD j 0).testBit k)

def guardA (ops : Array Oper) (s : St) (o : Oper) : Option Bool :=
  match o.guard with
  | none => some true
  | some (j, want) => match (ops[j]?).bind (·.dst) with
    | none => none
    | some t => match s.sl t with
      | .v (.bool b) => some (b == want)
      | .tup [] => some false
      | _ => none

def AOps (P : Program) (Θ : Tab) (n : Nat) (ops : Array Oper) (draw : Bool) : Nat → List Oper → St → (St → Prop) → Prop
  | _, [], s, K => K s
  | k, o :: r, s, K => inN n o.dst = true ∧
    match guardA ops s o with
    | some true => ∃ e, Pre P Θ o s e ∧ (draw = true → e.upd = none ∨ tied ops k = true) ∧
        (AOps P Θ n ops draw (k + 1) r (s.app o.dst e) K ∨ ((draw = true → tied ops k = true) ∧ Gh (fun s' => AOps P Θ n ops draw (k + 1) r s' K) (s.app o.dst e)))
    | some false => AOps P Θ n ops draw (k + 1) r (s.put o.dst (.tup [])) K
    | none => False

/-! ### weaker states -/
structure Inv where
  slots : List (Nat × AV)
  rows : List (Nat × OB)
def lookS : List (Nat × AV) → Nat → AV
  | [], _ => .any
  | (t, x) :: r, j => bif Nat.beq j t then x else lookS r j
def lookR : List (Nat × OB) → Nat → Option OB
  | [], _ => none
  | (t, x) :: r, j => bif Nat.beq j t then some x else lookR r j
def Inv.st (i : Inv) : St := ⟨lookS i.slots, lookR i.rows, fun _ => none⟩
/-- a slot's datum may be read as another: the row that is owned no longer need be -/
def slotLe (s : St) (rows : List (Nat × OB)) (x y : AV) : Prop :=
  x = y ∧ y.within (fun l => (lookR rows l).isSome) = true ∨ ∃ l ob, x = .own l ∧ lookR rows l = none ∧ s.hp l = some ob ∧ (ob.e.shut = true ∧ y = .lst ob.sz ob.xs)
def slotsLe (s : St) (rows : List (Nat × OB)) : List (Nat × AV) → Prop
  | [] => True
  | (t, y) :: r => slotLe s rows (s.sl t) y ∧ slotsLe s rows r
def rowLe (s : St) (all : List (Nat × OB)) (l : Nat) (ob : OB) : Prop :=
  match withinE (fun l => (lookR all l).isSome) ob.e with
  | true => s.hp l = some ob
  | false => False
def rowsLe (s : St) (all : List (Nat × OB)) : List (Nat × OB) → Prop
  | [] => True
  | (l, ob) :: r => rowLe s all l ob ∧ rowsLe s all r
def St.le (s : St) (i : Inv) : Prop := rowsLe s i.rows i.rows ∧ slotsLe s i.rows i.slots

structure InvM where
  slots : List (Nat × AV)
  rows : List (Nat × OB)
  maps : List (Nat × List (ByteArray × AV))
def lookM : List (Nat × List (ByteArray × AV)) → Nat → Option (List (ByteArray × AV))
  | [], _ => none
  | (t, x) :: r, j => bif Nat.beq j t then some x else lookM r j
def InvM.st (i : InvM) : St := ⟨lookS i.slots, lookR i.rows, lookM i.maps⟩
def mapsLe (s : St) (rows : List (Nat × OB)) : List (Nat × List (ByteArray × AV)) → Prop
  | [] => True
  | (l, es) :: r => (s.mp l = some es ∧ (lookR rows l).isSome = true) ∧ mapsLe s rows r
def St.leM (s : St) (i : InvM) : Prop := s.le ⟨i.slots, i.rows⟩ ∧ mapsLe s i.rows i.maps
def Inv.m (i : Inv) : InvM := ⟨i.slots, i.rows, []⟩
inductive AEx where
  | normal | exit (id : Nat) | ret
def AEx.then (next : St → Prop) (Q : AEx → St → Prop) : AEx → St → Prop
  | .normal, s => next s
  | e, s => Q e s
def AEx.inBlock (id : Nat) (Q : AEx → St → Prop) : AEx → St → Prop
  | .exit j, s => bif Nat.beq j id then Q .normal s else Q (.exit j) s
  | e, s => Q e s

def ACode (P : Program) (Θ : Tab) (n : Nat) : Code → (AEx → St → Prop) → St → Prop
  | .skip, Q, s => Q .normal s
  | .label _, Q, s => Q .normal s
  | .region _ ops draw, Q, s => (draw = true → Region.lexB .any ops = true) ∧ AOps P Θ n ops draw 0 ops.toList s (Q .normal)
  | .seq a b, Q, s => ACode P Θ n a (AEx.then (ACode P Θ n b Q) Q) s ∨ ∃ (ι : Type) (I : ι → InvM), ACode P Θ n a (AEx.then (fun s' => ∃ j, s'.leM (I j)) Q) s ∧ ∀ j, ACode P Θ n b Q (I j).st
  | .cond c x y, Q, s => ∃ b, s.ev c = .v (.bool b) ∧ (match b with | true => ACode P Θ n x Q s | false => ACode P Θ n y Q s)
  | .block id c, Q, s => ACode P Θ n c (AEx.inBlock id Q) s
  | .loop c, Q, s => ∃ (ι : Type) (I : ι → InvM) (μ : ι → Nat), (∃ i, s.leM (I i)) ∧ ∀ i, ACode P Θ n c (AEx.then (fun s' => ∃ j, s'.leM (I j) ∧ μ j < μ i) Q) (I i).st
  | .exit id, Q, s => Q (.exit id) s
  | .ret, Q, s => Q .ret s
  | _, _, _ => False

section
variable {P : Program} {Θ : Tab} {W : World} {M : Hand} {S0 : Nat → Prop} {n : Nat} {ops : Array Oper} {s : St} {a : Act} {w : World} {Q : Exit → Act → World → Prop}
/-- what is known less -/
theorem le_sim {i : InvM} (hs : Sim W M S0 n s a w) (hl : s.leM i) : Sim W M S0 n i.st a w := by
  obtain ⟨hn, hdf, S, B, V, T, h⟩ := hs
  obtain ⟨⟨hr, hsl⟩, hml⟩ := hl
  have hrows : ∀ (rows : List (Nat × OB)), rowsLe s i.rows rows → ∀ l ob, lookR rows l = some ob → s.hp l = some ob ∧ withinE (fun l => (lookR i.rows l).isSome) ob.e = true := by
    intro rows
    induction rows with
    | nil => intro _ l ob e; simp [lookR] at e
    | cons q rows ih =>
      obtain ⟨t, ob0⟩ := q
      intro hr l ob e
      simp only [lookR] at e
      by_cases hl : l = t
      · subst hl; simp at e; subst e
        have h1 := hr.1
        unfold rowLe at h1
        cases hw : withinE (fun l => (lookR i.rows l).isSome) ob0.e with
        | true => rw [hw] at h1; exact ⟨h1, rfl⟩
        | false => rw [hw] at h1; exact h1.elim
      · rw [nbne hl] at e; exact ih hr.2 l ob e
  have hrow := hrows i.rows hr
  have hmaps : ∀ (ms : List (Nat × List (ByteArray × AV))), mapsLe s i.rows ms → ∀ l es, lookM ms l = some es → s.mp l = some es ∧ (lookR i.rows l).isSome = true := by
    intro ms
    induction ms with
    | nil => intro _ l es e; simp [lookM] at e
    | cons q ms ih =>
      obtain ⟨t, x⟩ := q
      intro hq l es e
      simp only [lookM] at e
      by_cases hl : l = t
      · subst hl; simp at e; rw [← e]; exact hq.1
      · rw [nbne hl] at e; exact ih hq.2 l es e
  have hmap := hmaps i.maps hml
  let S' : Nat → Prop := fun g => S g ∨ ∃ l ob, s.hp l = some ob ∧ lookR i.rows l = none ∧ Blk V T l g
  have hm : ∀ b, S b → S' b := fun b hb => .inl hb
  have hsame : ∀ l, (lookR i.rows l).isSome = true → Same s.hp (lookR i.rows) B B V V l := fun l hl ob ho => by
    obtain ⟨ob', ho'⟩ := Option.isSome_iff_exists.1 hl
    have := (hrow l ob' ho').1
    rw [ho] at this; cases this
    exact ⟨ob, ho', rfl, rfl, rfl⟩
  refine ⟨hn, hdf, S', B, V, T, h.below, fun b hb => hm b (h.s0 b hb), fun b hb => ?_, fun t => ?_, ⟨fun l ob ho => ?_, fun l ob g ho hg => ?_, fun l ob g ho => h.rows.nd l ob g (hrow l ob ho).1, fun l l' o1 o2 g h1 h2 => h.rows.ds l l' o1 o2 g (hrow l o1 h1).1 (hrow l' o2 h2).1, fun l es e => ?_⟩, h.pin⟩
  · rcases hb with hb | ⟨l, ob, ho, _, hg⟩
    · exact h.slt b hb
    · obtain ⟨_, k2, k3⟩ := h.rows.me l ob b ho hg
      exact ⟨k2, .inr k3⟩
  · have hslots : ∀ (sl : List (Nat × AV)), slotsLe s i.rows sl → RV S' w (lookR i.rows) B V (lookS sl t) (a.tmps.getD t undef) := by
      intro sl
      induction sl with
      | nil => intro _; show RV _ _ _ _ _ .any _; unfold RV; trivial
      | cons q sl ih =>
        obtain ⟨u, y⟩ := q
        intro hq
        by_cases ht : t = u
        · subst ht
          show RV _ _ _ _ _ (bif Nat.beq t t then y else lookS sl t) _
          simp only [Nat.beq_refl, cond_true]
          have hx := h.sl t
          rcases hq.1 with ⟨e, hnm⟩ | ⟨l, ob, e, hno, ho, hsh, rfl⟩
          · rw [e] at hx
            exact RV.carry hm (fun _ _ => rfl) y _ (fun l hl => hsame l (within_names y hnm hl)) hx
          · rw [e] at hx
            unfold RV at hx ⊢
            rw [hx.2]
            exact dat_own h hm ho hsh (fun g hg => .inr ⟨l, ob, ho, hno, hg⟩)
        · show RV _ _ _ _ _ (bif Nat.beq t u then y else lookS sl t) _
          rw [nbne ht]; exact ih hq.2
    exact hslots i.slots hsl
  · obtain ⟨ho', hw⟩ := hrow l ob ho
    exact (h.rows.ro l ob ho').carry hm (fun _ _ => rfl) (fun j hj => hsame j (withinE_names hw hj)) (fun _ _ => rfl) (fun _ _ => rfl)
  · obtain ⟨ho', _⟩ := hrow l ob ho
    obtain ⟨k1, k2, k3⟩ := h.rows.me l ob g ho' hg
    refine ⟨fun hs => ?_, k2, k3⟩
    rcases hs with hs | ⟨l', ob', ho2, hno, hg'⟩
    · exact k1 hs
    · have := h.rows.ds l l' ob ob' g ho' ho2 hg hg'
      subst this
      have hl2 : lookR i.rows l = some ob := ho
      rw [hno] at hl2; cases hl2
  · obtain ⟨e1, e2⟩ := hmap l es e
    obtain ⟨⟨t, sz, ho⟩, k⟩ := h.rows.mp l es e1
    obtain ⟨ob', ho'⟩ := Option.isSome_iff_exists.1 e2
    have := (hrow l ob' ho').1
    rw [ho] at this; cases this
    exact ⟨⟨t, sz, ho'⟩, k⟩
end
end Go.Proofs.Ytmafbodblpgcjaa.AM
