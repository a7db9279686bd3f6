/- The machine over data, run: what leaves no question is reckoned, and the goal stands at the next operation that asks one. -/
import Derived.Test.YtciacgmdeaihlaaAm13
namespace Go.Proofs.Ytciacgmdeaihlaa.AM
open Go Go.RowKit
set_option linter.unusedVariables false

def force (x : AV) (k : AV → Option St) : Option St :=
  match x with
  | .any => none
  | .v c => k (.v c)
  | .agg xs => k (.agg xs)
  | .lst z xs => k (.lst z xs)
  | .ptr y => k (.ptr y)
  | .own l => k (.own l)
  | .optr l i p c => k (.optr l i p c)
  | .tup xs => k (.tup xs)
theorem force_eq {x : AV} {k : AV → Option St} {s : St} (h : force x k = some s) : k x = some s := by
  cases x <;> first | exact h | cases h
def forceL : List AV → (List AV → Option St) → Option St
  | [], k => k []
  | x :: r, k => force x fun y => forceL r fun ys => k (y :: ys)
theorem forceL_eq {s : St} : ∀ {xs : List AV} {k : List AV → Option St}, forceL xs k = some s → k xs = some s
  | [], k, h => h
  | x :: r, k, h => forceL_eq (xs := r) (k := fun ys => k (x :: ys)) (force_eq (k := fun y => forceL r fun ys => k (y :: ys)) h)
def partsB (s : St) : List AV → List (Nat × Operand) → Bool
  | _, [] => true
  | z, (i, x) :: r => (match z[i]? with | some y => Nat.beq (asz (s.dat (s.ev x))) (asz y) | none => false) && (isDataA (s.dat (s.ev x)) && partsB s (z.set i (s.dat (s.ev x))) r)
theorem partsB_ok {s : St} : ∀ (ps : List (Nat × Operand)) (z : List AV), partsB s z ps = true → partsOK s z ps
  | [], z, _ => trivial
  | (i, x) :: r, z, h => by
    simp only [partsB, Bool.and_eq_true] at h
    refine ⟨?_, h.2.1, partsB_ok r _ h.2.2⟩
    have h1 := h.1
    split at h1
    · rename_i y hy; exact ⟨y, hy, Nat.eq_of_beq_eq_true h1⟩
    · cases h1
def nilAt (Θ : Tab) (draw : Bool) (dst : Option Tmp) (ty : TypeId) (c : Value) : Option (Nat × Nat × Nat) :=
  match c, dst, Θ.look ty with
  | .slice none 0 0, some d, .slice el sz _ _ => bif !draw && Nat.blt 0 sz then some (d, el, sz) else none
  | _, _, _ => none
theorem cond_some {α : Type} {b : Bool} {x : Option α} {y : α} (h : (bif b then x else none) = some y) : b = true ∧ x = some y := by cases b with
  | true => exact ⟨rfl, h⟩
  | false => cases h
theorem nilAt_ok {Θ : Tab} {draw : Bool} {dst : Option Tmp} {ty : TypeId} {c : Value} {d el sz : Nat} (h : nilAt Θ draw dst ty c = some (d, el, sz)) : dst = some d ∧ c = .slice none 0 0 ∧ draw = false ∧ 0 < sz := by
  unfold nilAt at h
  split at h
  · obtain ⟨h1, h2⟩ := cond_some h
    cases h2
    simp only [Bool.and_eq_true] at h1
    exact ⟨rfl, rfl, by cases draw <;> simp_all, by simpa using h1.2⟩
  · cases h
def stepOp (Θ : Tab) (draw : Bool) (o : Oper) (s : St) : Option St :=
  match o.op with
  | .move (.tmp t) => force (s.sl t) fun v => some (s.put o.dst v)
  | .assign (.tmp t) => force (s.sl t) fun v => some (s.put o.dst v)
  | .move (.const c) => match nilAt Θ draw o.dst o.type c with
    | some (d, el, sz) => some (((s.kill (d + 1)).set (d + 1) (some ⟨el, sz, []⟩)).put (some d) (.own (d + 1)))
    | none => bif c.oneCell' then some (s.put o.dst (.v c)) else none
  | .assign (.const c) => match nilAt Θ draw o.dst o.type c with
    | some (d, el, sz) => some (((s.kill (d + 1)).set (d + 1) (some ⟨el, sz, []⟩)).put (some d) (.own (d + 1)))
    | none => bif c.oneCell' then some (s.put o.dst (.v c)) else none
  | .pick c a b => match s.ev c with
    | .v (.bool t) => bif cOK a && cOK b then force (bif t then s.ev a else s.ev b) fun v => some (s.put o.dst v) else none
    | _ => none
  | .unOp .not _ x => match s.ev x with
    | .v (.bool b) => some (s.put o.dst (.v (.bool (!b))))
    | _ => none
  | .extract x i => match s.ev x with
    | .tup xs => match xs[i]? with
      | some y => force y fun v => some (s.put o.dst v)
      | none => none
    | _ => none
  | .fieldAddr t x f => match Θ.look t with
    | .struct fs _ => match fs[f]? with
      | some (o_, _) => match s.ev x with
        | .ptr (.agg ys) => match ys[f]? with
          | some y => bif Nat.beq (aszs (ys.take f)) o_ then some (s.put o.dst (.ptr y)) else none
          | none => none
        | .optr l i p c => some (s.put o.dst (.optr l i (p ++ [f]) (c + o_)))
        | _ => none
      | none => none
    | _ => none
  | .load t x => match s.ev x with
    | .ptr y => bif (Θ.look t).known && (Bool.xor (isAggA y) (Θ.look t).isAgg).not && Nat.beq (asz y) (Θ.look t).size then force y fun v => some (s.put o.dst v) else none
    | .optr l i p c => match s.hp l with
      | some ob => match ob.xs[i]? with
        | some y => match getP y p 0 with
          | some (z, c') => bif Nat.beq c' c && (Θ.look t).known && (Bool.xor (isAggA z) (Θ.look t).isAgg).not && Nat.beq (asz z) (Θ.look t).size then force z fun v => some (s.put o.dst v) else none
          | none => none
        | none => none
      | none => none
    | _ => none
  | .alloc t => match o.dst with
    | some d => match s.hp (d + 1) with
      | none => bif !draw && (Θ.look t).known then some ((s.set (d + 1) (some ⟨t, (Θ.look t).size, [(Θ.look t).zero]⟩)).put (some d) (.optr (d + 1) 0 [] 0)) else none
      | some _ => none
    | none => none
  | .box t x => match o.dst with
    | some d => match s.hp (d + 1) with
      | none => match s.ev x with
        | .agg ys => bif !draw && (Θ.look t).known && Nat.beq (asz (.agg ys)) (Θ.look t).size then some ((s.set (d + 1) (some ⟨t, (Θ.look t).size, [.agg ys]⟩)).put (some d) (.optr (d + 1) 0 [] 0)) else none
        | _ => none
      | some _ => none
    | none => none
  | .build t ps => match Θ.look t with
    | .struct _ z => bif (ownsOf s (ps.toList.map (·.2))).isEmpty && partsB s z ps.toList then forceL (setParts s z ps.toList) fun ys => some (s.put o.dst (.agg ys)) else none
    | _ => none
  | .buildSlice t m ps => match o.dst with
    | some d => match s.hp (d + 1) with
      | none => match Θ.look t with
        | .slice el sz _ z => bif !draw && ((ownsOf s (ps.toList.map (·.2))).isEmpty && (Nat.ble (m * sz) 65536 && partsB s (List.replicate m z) ps.toList)) then forceL (setParts s (List.replicate m z) ps.toList) fun ys => some ((s.set (d + 1) (some ⟨el, sz, ys⟩)).put (some d) (.own (d + 1))) else none
        | _ => none
      | some _ => none
    | none => none
  | _ => none

section
variable {P : Program} {Θ : Tab} {n : Nat} {ops : Array Oper} {draw : Bool} {s s' : St}
theorem xor_not {a b : Bool} (h : (Bool.xor a b).not = true) : a = b := by cases a <;> cases b <;> first | rfl | cases h
theorem stepOp_sound {o : Oper} (h : stepOp Θ draw o s = some s') : ∃ e, Pre P Θ o s e ∧ (draw = true → e.upd = none) ∧ s.app o.dst e = s' := by
  obtain ⟨dst, op, ty, pos, after, guard⟩ := o
  have fin : ∀ {v : AV}, Pre P Θ ⟨dst, op, ty, pos, after, guard⟩ s ⟨v, none⟩ → some (s.put dst v) = some s' → ∃ e, Pre P Θ ⟨dst, op, ty, pos, after, guard⟩ s e ∧ (draw = true → e.upd = none) ∧ s.app dst e = s' := fun hp he => ⟨_, hp, fun _ => rfl, by cases he; rfl⟩
  cases op with
  | move x => cases x with
    | tmp t => exact fin (p_mv rfl) (force_eq (k := fun v => some (s.put dst v)) h)
    | const c =>
      simp only [stepOp] at h
      split at h
      · rename_i d el sz hn
        obtain ⟨rfl, rfl, hd, h0⟩ := nilAt_ok hn
        refine ⟨_, p_nilm el sz h0, (fun e => by rw [e] at hd; cases hd), ?_⟩
        cases h; rfl
      · obtain ⟨h1, h2⟩ := cond_some h; exact fin (p_mvc h1) h2
    | _ => cases h
  | assign x => cases x with
    | tmp t => exact fin (p_as rfl) (force_eq (k := fun v => some (s.put dst v)) h)
    | const c =>
      simp only [stepOp] at h
      split at h
      · rename_i d el sz hn
        obtain ⟨rfl, rfl, hd, h0⟩ := nilAt_ok hn
        refine ⟨_, p_nila el sz h0, (fun e => by rw [e] at hd; cases hd), ?_⟩
        cases h; rfl
      · obtain ⟨h1, h2⟩ := cond_some h; exact fin (p_asc h1) h2
    | _ => cases h
  | pick c a b =>
    simp only [stepOp] at h
    split at h
    · rename_i t ht
      obtain ⟨h1, h2⟩ := cond_some h
      simp only [Bool.and_eq_true] at h1
      exact fin (p_pick ht rfl h1.1 h1.2) (force_eq h2)
    · cases h
  | unOp op t x =>
    cases op with
    | not =>
      simp only [stepOp] at h
      split at h
      · rename_i b hb; exact fin (p_not hb) h
      · cases h
    | _ => cases h
  | extract x i =>
    simp only [stepOp] at h
    split at h
    · rename_i xs hx
      split at h
      · rename_i y hy; exact fin (p_ext hx hy) (force_eq h)
      · cases h
    · cases h
  | fieldAddr t x f =>
    simp only [stepOp] at h
    split at h
    · rename_i fs z ht
      split at h
      · rename_i o_ z_ hf
        split at h
        · rename_i ys hx
          split at h
          · rename_i y hy
            obtain ⟨h1, h2⟩ := cond_some h
            exact fin (p_fld ht hf hx hy (Nat.eq_of_beq_eq_true h1)) h2
          · cases h
        · rename_i l i p c hx; exact fin (p_ofld ht hf hx) h
        · cases h
      · cases h
    · cases h
  | load t x =>
    simp only [stepOp] at h
    split at h
    · rename_i y hx
      obtain ⟨h1, h2⟩ := cond_some h
      simp only [Bool.and_eq_true] at h1
      exact fin (p_ld hx h1.1.1 (xor_not h1.1.2) (Nat.eq_of_beq_eq_true h1.2)) (force_eq h2)
    · rename_i l i p c hx
      split at h
      · rename_i ob ho
        split at h
        · rename_i y hy
          split at h
          · rename_i z c' hg
            obtain ⟨h1, h2⟩ := cond_some h
            simp only [Bool.and_eq_true] at h1
            have hc := Nat.eq_of_beq_eq_true h1.1.1.1
            subst hc
            exact fin (p_old hx ho hy hg h1.1.1.2 (xor_not h1.1.2) (Nat.eq_of_beq_eq_true h1.2)) (force_eq h2)
          · cases h
        · cases h
      · cases h
    · cases h
  | alloc t =>
    cases dst with
    | none => cases h
    | some d =>
      simp only [stepOp] at h
      split at h
      · rename_i hf
        obtain ⟨h1, h2⟩ := cond_some h
        simp only [Bool.and_eq_true] at h1
        refine ⟨_, p_allo hf h1.2, fun e => by rw [e] at h1; simp at h1, ?_⟩
        cases h2; rfl
      · cases h
  | box t x =>
    cases dst with
    | none => cases h
    | some d =>
      simp only [stepOp] at h
      split at h
      · rename_i hf
        split at h
        · rename_i ys hx
          obtain ⟨h1, h2⟩ := cond_some h
          simp only [Bool.and_eq_true] at h1
          refine ⟨_, p_box hf hx rfl (by simp only [Bool.and_eq_true]; exact ⟨h1.1.2, h1.2⟩), fun e => by rw [e] at h1; simp at h1, ?_⟩
          cases h2; rfl
        · cases h
      · cases h
  | build t ps =>
    simp only [stepOp] at h
    split at h
    · rename_i fs z ht
      obtain ⟨h1, h2⟩ := cond_some h
      simp only [Bool.and_eq_true] at h1
      have hown : ownsOf s (ps.toList.map (·.2)) = [] := by simpa using h1.1
      exact fin (v := .agg (setParts s z ps.toList)) ⟨fs, z, ht, partsB_ok _ _ h1.2, by rw [hown]; rfl⟩ (forceL_eq (k := fun ys => some (s.put dst (.agg ys))) h2)
    · cases h
  | buildSlice t m ps =>
    cases dst with
    | none => cases h
    | some d =>
      simp only [stepOp] at h
      split at h
      · rename_i hf
        split at h
        · rename_i el sz b z ht
          obtain ⟨h1, h2⟩ := cond_some h
          simp only [Bool.and_eq_true] at h1
          have hown : ownsOf s (ps.toList.map (·.2)) = [] := by simpa using h1.2.1
          have h3 := forceL_eq (k := fun ys => some ((s.set (d + 1) (some ⟨el, sz, ys⟩)).put (some d) (.own (d + 1)))) h2
          refine ⟨⟨.own (d + 1), some fun s' => s'.set (d + 1) (some ⟨el, sz, setParts s (List.replicate m z) ps.toList⟩)⟩, ⟨d, el, sz, b, z, rfl, hf, ht, Nat.le_of_ble_eq_true h1.2.2.1, partsB_ok _ _ h1.2.2.2, by rw [hown]; rfl⟩, fun e => by rw [e] at h1; simp at h1, ?_⟩
          cases h3; rfl
        · cases h
      · cases h
  | _ => cases h

def runK (P : Program) (Θ : Tab) (n : Nat) (ops : Array Oper) (draw : Bool) : Nat → List Oper → St → (St → Prop) → Prop
  | _, [], s, K => K s
  | k, o :: r, s, K =>
    match inN n o.dst with
    | false => False
    | true => match guardA ops s o with
      | some false => runK P Θ n ops draw (k + 1) r (s.put o.dst (.tup [])) K
      | some true => match stepOp Θ (draw && !(tied ops k)) o s with
        | some s' => runK P Θ n ops draw (k + 1) r s' K
        | none => AOps P Θ n ops draw k (o :: r) s K
      | none => AOps P Θ n ops draw k (o :: r) s K
theorem runK_sound {K : St → Prop} : ∀ (l : List Oper) (k : Nat) (s : St), runK P Θ n ops draw k l s K → AOps P Θ n ops draw k l s K
  | [], k, s, h => o_nil h
  | o :: r, k, s, h => by
    unfold runK at h
    cases hin : inN n o.dst with
    | false => rw [hin] at h; exact h.elim
    | true =>
      rw [hin] at h
      simp only at h
      cases hg : guardA ops s o with
      | none => rw [hg] at h; exact h
      | some b => cases b with
        | false => rw [hg] at h; exact o_skip hg hin (runK_sound r (k + 1) _ h)
        | true =>
          rw [hg] at h
          simp only at h
          cases hs : stepOp Θ (draw && !(tied ops k)) o s with
          | none => rw [hs] at h; exact h
          | some s' =>
            rw [hs] at h
            obtain ⟨e, hp, hu, he⟩ := stepOp_sound (P := P) hs
            exact o_step hg hin hp (fun hd => by cases ht : tied ops k with | true => exact .inr rfl | false => exact .inl (hu (by rw [hd, ht]; rfl))) (by rw [he]; exact runK_sound r (k + 1) _ h)

/-- the code run: a loop and a region's question stand still -/
def runC (P : Program) (Θ : Tab) (n : Nat) : Code → (AEx → St → Prop) → St → Prop
  | .skip, Q, s => Q .normal s
  | .label _, Q, s => Q .normal s
  | .region _ ops false, Q, s => runK P Θ n ops false 0 ops.toList s (Q .normal)
  | .region _ ops true, Q, s => Region.lexB .any ops = true ∧ runK P Θ n ops true 0 ops.toList s (Q .normal)
  | .seq a b, Q, s => runC P Θ n a (AEx.then (runC P Θ n b Q) Q) s
  | .cond c x y, Q, s => match s.ev c with
    | .v (.bool true) => runC P Θ n x Q s
    | .v (.bool false) => runC P Θ n y Q s
    | _ => ACode P Θ n (.cond c x y) Q s
  | .block id c, Q, s => runC P Θ n c (AEx.inBlock id Q) s
  | .exit id, Q, s => Q (.exit id) s
  | .ret, Q, s => Q .ret s
  | c, Q, s => ACode P Θ n c Q s
theorem acode_mono {Q Q' : AEx → St → Prop} : ∀ (c : Code) (s : St), (∀ e s, Q e s → Q' e s) → ACode P Θ n c Q s → ACode P Θ n c Q' s := by
  have ops_mono : ∀ {ops : Array Oper} {draw : Bool} {K K' : St → Prop} (l : List Oper) (k : Nat) (s : St), (∀ s, K s → K' s) → AOps P Θ n ops draw k l s K → AOps P Θ n ops draw k l s K' := by
    intro ops draw K K' l
    induction l with
    | nil => intro k s hk h; exact hk s h
    | cons o r ih =>
      intro k s hk h
      unfold AOps at h ⊢
      refine ⟨h.1, ?_⟩
      have h2 := h.2
      split
      · rename_i hg; simp only [hg] at h2; obtain ⟨e, a, b, c⟩ := h2; exact ⟨e, a, b, ih _ _ hk c⟩
      · rename_i hg; simp only [hg] at h2; exact ih _ _ hk h2
      · rename_i hg; simp only [hg] at h2
  intro c
  induction c generalizing Q Q' with
  | skip => intro s hq h; exact hq _ _ h
  | label l => intro s hq h; exact hq _ _ h
  | region id ops draw => intro s hq h; exact ⟨h.1, ops_mono _ _ _ (fun s h => hq _ _ h) h.2⟩
  | seq a b iha ihb =>
    intro s hq h
    rcases h with h | ⟨ι, I, h, k⟩
    · exact .inl (iha s (fun e s he => by cases e <;> first | exact ihb s hq he | exact hq _ _ he) h)
    · exact .inr ⟨ι, I, iha s (fun e s he => by cases e <;> first | exact he | exact hq _ _ he) h, fun j => ihb _ hq (k j)⟩
  | cond c x y ihx ihy => intro s hq h; obtain ⟨b, hc, h⟩ := h; refine ⟨b, hc, ?_⟩; cases b <;> first | exact ihx s hq h | exact ihy s hq h
  | block id c ih =>
    intro s hq h
    refine ih s (fun e s he => ?_) h
    cases e with
    | exit j =>
      show (bif Nat.beq j id then Q' .normal s else Q' (.exit j) s)
      have he' : (bif Nat.beq j id then Q .normal s else Q (.exit j) s) := he
      cases hb : Nat.beq j id with
      | true => rw [hb] at he'; exact hq _ _ he'
      | false => rw [hb] at he'; exact hq _ _ he'
    | normal => exact hq _ _ he
    | ret => exact hq _ _ he
  | loop c ih =>
    intro s hq h
    obtain ⟨ι, I, μ, h0, hr⟩ := h
    exact ⟨ι, I, μ, h0, fun i => ih _ (fun e s he => by cases e <;> first | exact he | exact hq _ _ he) (hr i)⟩
  | exit id => intro s hq h; exact hq _ _ h
  | ret => intro s hq h; exact hq _ _ h
  | rangeFunc _ _ _ _ => intro s hq h; exact h.elim
  | scope _ => intro s hq h; exact h.elim
  | goto _ => intro s hq h; exact h.elim
  | refuse _ => intro s hq h; exact h.elim
theorem runC_sound : ∀ (c : Code) (Q : AEx → St → Prop) (s : St), runC P Θ n c Q s → ACode P Θ n c Q s := by
  intro c
  induction c with
  | skip => intro Q s h; exact h
  | label l => intro Q s h; exact h
  | region id ops draw =>
    intro Q s h
    cases draw with
    | false => exact ⟨(fun e => by cases e), runK_sound _ _ _ h⟩
    | true => exact ⟨fun _ => h.1, runK_sound _ _ _ h.2⟩
  | seq a b iha ihb =>
    intro Q s h
    exact .inl (acode_mono a s (fun e s he => by cases e <;> first | exact ihb Q s he | exact he) (iha _ s h))
  | cond c x y ihx ihy =>
    intro Q s h
    simp only [runC] at h
    split at h
    · rename_i hc; exact ⟨true, hc, ihx Q s h⟩
    · rename_i hc; exact ⟨false, hc, ihy Q s h⟩
    · exact h
  | block id c ih => intro Q s h; exact ih _ s h
  | exit id => intro Q s h; exact h
  | ret => intro Q s h; exact h
  | loop c ih => intro Q s h; exact h
  | rangeFunc _ _ _ _ => intro Q s h; exact h
  | scope _ => intro Q s h; exact h
  | goto _ => intro Q s h; exact h
  | refuse _ => intro Q s h; exact h

variable {k : Nat} {r : List Oper} {K : St → Prop} {d : Option Tmp} {op : Op} {ty : TypeId} {pos : String} {after : Array Edge} {g : Option (Nat × Bool)}
/-- an operation that asks: its answer, and on -/
theorem r_put {v : AV} (hp : Pre P Θ ⟨d, op, ty, pos, after, g⟩ s ⟨v, none⟩) (hg : guardA ops s ⟨d, op, ty, pos, after, g⟩ = some true) (hin : inN n d = true) (h : runK P Θ n ops draw (k + 1) r (s.put d v) K) : AOps P Θ n ops draw k (⟨d, op, ty, pos, after, g⟩ :: r) s K :=
  o_put hp hg hin (runK_sound _ _ _ h)
theorem r_step {e : Eff} (hp : Pre P Θ ⟨d, op, ty, pos, after, g⟩ s e) (hg : guardA ops s ⟨d, op, ty, pos, after, g⟩ = some true) (hin : inN n d = true) (hu : draw = true → e.upd = none ∨ tied ops k = true) (h : runK P Θ n ops draw (k + 1) r (s.app d e) K) : AOps P Θ n ops draw k (⟨d, op, ty, pos, after, g⟩ :: r) s K :=
  o_step hg hin hp hu (runK_sound _ _ _ h)
theorem r_loop {c : Code} {Q : AEx → St → Prop} {ι : Type} (I : ι → Inv) (μ : ι → Nat) (i0 : ι) (h0 : s.le (I i0)) (h : ∀ i, runC P Θ n c (AEx.then (fun s' => ∃ j, s'.le (I j) ∧ μ j < μ i) Q) (I i).st) : ACode P Θ n (.loop c) Q s :=
  c_loop I μ i0 h0 fun i => runC_sound _ _ _ (h i)
/-- the function's body, run -/
theorem r_of (hΘ : TabOK P Θ) (hm : P.follows .mixedOrders = true) {f : FuncId} {fn : Func} {c : Code} {n : Nat} {rs : List ResultVar} (hf : P.funcs[f]? = some fn) (hb : fn.body = some c) (hnt : fn.ntmps = n) (hrs : fn.results = rs.toArray) (hnm : (fn.name == "runtime.NumGoroutine") = false)
    {args : List AV} {out : Out} (hlen : Nat.ble args.length n = true) (h : runC P Θ n c (RetQ Θ rs out) (St.init args)) : AC P f args out :=
  ac_of hΘ hm hf hb hnt (by rw [hrs]) hnm (Nat.le_of_ble_eq_true hlen) (runC_sound _ _ _ h)
theorem r_ofM (hΘ : TabOK P Θ) (hm : P.follows .mixedOrders = true) {f : FuncId} {fn : Func} {c : Code} {n r : Nat} (hf : P.funcs[f]? = some fn) (hb : fn.body = some c) (hnt : fn.ntmps = n) (hrs : fn.results = #[.tmp r]) (hnm : (fn.name == "runtime.NumGoroutine") = false)
    {args : List AV} {ob : OB} {xs' : List AV} {v : Value} (hlen : Nat.ble (args.length + 1) n = true) (hfl : flatL xs') (h : runC P Θ n c (RetM r ob.e ob.sz xs' v) (St.initM ob args)) : ACM P f ob xs' args v :=
  acm_of hΘ hm hf hb hnt hrs hnm (Nat.le_of_ble_eq_true hlen) hfl (runC_sound _ _ _ h)
/-- append: of an element that a literal has just laid; of a list -/
theorem p_app1 {α : Type} {x y : Operand} {t el sz b l l' e' : Nat} {z : AV} {xs : List α} {f : α → AV} (e : α) (hb : (xs.length + 1) * b ≤ 140737488355328) (hx : s.ev x = .own l) (hy : s.ev y = .own l') (ho : s.hp l = some ⟨el, sz, xs.map f⟩) (ho' : s.hp l' = some ⟨e', sz, [f e]⟩) (hn : (Nat.beq l' l || Nat.beq l 0) = false) (ht : Θ.look t = .slice el sz b z) (hb1 : Nat.ble 1 b = true) :
    Pre P Θ ⟨d, .call ⟨.builtin .append, #[x, y], #[t, t]⟩, ty, pos, after, g⟩ s ⟨.own l, some fun s => (s.kill l).set l (some ⟨el, sz, (xs ++ [e]).map f⟩)⟩ := by
  simp only [Bool.or_eq_false_iff] at hn
  have n1 : l' ≠ l := fun h => by rw [h] at hn; simp at hn
  have n2 : l ≠ 0 := fun h => by rw [h] at hn; simp at hn
  have hb1' := Nat.le_of_ble_eq_true hb1
  have hm : xs.length + 1 ≤ maxLen := by
    have : (xs.length + 1) * 1 ≤ (xs.length + 1) * b := Nat.mul_le_mul_left _ hb1'
    unfold maxLen; omega
  exact ⟨x, y, t, el, sz, b, z, l, _, [f e], rfl, rfl, ht, hx, ho, n2, rfl, rfl, .inr ⟨l', _, hy, n1, ho', rfl, rfl⟩, by simpa using hb, by simpa using hm, by rw [List.map_append]; rfl⟩
theorem p_app1r {α : Type} {x y : Operand} {t el sz b l l' e' : Nat} {z : AV} {xs : List α} {f : α → AV} (e : α) (ys : List α) (hys : xs ++ [e] = ys) (hb : (xs.length + 1) * b ≤ 140737488355328) (hx : s.ev x = .own l) (hy : s.ev y = .own l') (ho : s.hp l = some ⟨el, sz, xs.map f⟩) (ho' : s.hp l' = some ⟨e', sz, [f e]⟩) (hn : (Nat.beq l' l || Nat.beq l 0) = false) (ht : Θ.look t = .slice el sz b z) (hb1 : Nat.ble 1 b = true) :
    Pre P Θ ⟨d, .call ⟨.builtin .append, #[x, y], #[t, t]⟩, ty, pos, after, g⟩ s ⟨.own l, some fun s => (s.kill l).set l (some ⟨el, sz, ys.map f⟩)⟩ := by
  subst hys; exact p_app1 e hb hx hy ho ho' hn ht hb1
theorem p_appl {α : Type} {x y : Operand} {t el sz b l : Nat} {z : AV} {xs ys : List α} {f : α → AV} (hb : (xs.length + ys.length) * b ≤ 140737488355328) (hx : s.ev x = .own l) (hy : s.ev y = .lst sz (ys.map f)) (ho : s.hp l = some ⟨el, sz, xs.map f⟩) (hn : Nat.beq l 0 = false) (ht : Θ.look t = .slice el sz b z) (hb1 : Nat.ble 1 b = true) :
    Pre P Θ ⟨d, .call ⟨.builtin .append, #[x, y], #[t, t]⟩, ty, pos, after, g⟩ s ⟨.own l, some fun s => (s.kill l).set l (some ⟨el, sz, (xs ++ ys).map f⟩)⟩ := by
  have n2 : l ≠ 0 := fun h => by rw [h] at hn; simp at hn
  have hb1' := Nat.le_of_ble_eq_true hb1
  have hm : xs.length + ys.length ≤ maxLen := by
    have : (xs.length + ys.length) * 1 ≤ (xs.length + ys.length) * b := Nat.mul_le_mul_left _ hb1'
    unfold maxLen; omega
  exact ⟨x, y, t, el, sz, b, z, l, _, ys.map f, rfl, rfl, ht, hx, ho, n2, rfl, rfl, .inl hy, by simpa using hb, by simpa using hm, by rw [List.map_append]⟩
/-- one value handed back, no row -/
theorem r_ret1 {t : Nat} {x : AV} {Θ : Tab} (h : s.sl t = x) (hx : (match x with | .v _ | .agg _ | .lst _ _ | .any => True | _ => False)) : RetQ Θ [.tmp t] ⟨x, []⟩ .ret s :=
  ⟨[], by simp, trivial, ⟨trivial, trivial⟩, trivial, ⟨.inl ⟨h, by cases x <;> first | trivial | exact hx⟩, trivial⟩⟩
theorem r_retM {r e sz : Nat} {xs' : List AV} {v : Value} (h1 : s.sl r = .v v) (h2 : s.hp 0 = some ⟨e, sz, xs'⟩) : RetM r e sz xs' v .ret s := ⟨h1, h2⟩
/-- one row handed back -/
theorem r_own1 {t l : Nat} {ob : OB} {Θ : Tab} (h : s.sl t = .own l) (ho : s.hp l = some ob) : RetQ Θ [.tmp t] ⟨.own 0, [ob]⟩ .ret s :=
  ⟨[l], by simp, ⟨ho, trivial⟩, ⟨trivial, trivial⟩, trivial, ⟨.inr (.inl ⟨l, 0, h, rfl, rfl⟩), trivial⟩⟩
theorem r_tupOV {t1 t2 l : Nat} {ob : OB} {v : Value} {Θ : Tab} (h1 : s.sl t1 = .own l) (h2 : s.sl t2 = .v v) (ho : s.hp l = some ob) : RetQ Θ [.tmp t1, .tmp t2] ⟨.tup [.own 0, .v v], [ob]⟩ .ret s :=
  ⟨[l], by simp, ⟨ho, trivial⟩, ⟨trivial, trivial, trivial⟩, ⟨_, rfl⟩, ⟨.inr (.inl ⟨l, 0, h1, rfl, rfl⟩), .inl ⟨h2, trivial⟩, trivial⟩⟩
theorem r_tupOOV {t1 t2 t3 l1 l2 : Nat} {o1 o2 : OB} {v : Value} {Θ : Tab} (h1 : s.sl t1 = .own l1) (h2 : s.sl t2 = .own l2) (h3 : s.sl t3 = .v v) (ho1 : s.hp l1 = some o1) (ho2 : s.hp l2 = some o2) (hn : Nat.beq l1 l2 = false) : RetQ Θ [.tmp t1, .tmp t2, .tmp t3] ⟨.tup [.own 0, .own 1, .v v], [o1, o2]⟩ .ret s :=
  ⟨[l1, l2], by simp; intro e; rw [e] at hn; simp at hn, ⟨ho1, ho2, trivial⟩, ⟨trivial, trivial, trivial, trivial⟩, ⟨_, rfl⟩, ⟨.inr (.inl ⟨l1, 0, h1, rfl, rfl⟩), .inr (.inl ⟨l2, 1, h2, rfl, rfl⟩), .inl ⟨h3, trivial⟩, trivial⟩⟩
theorem r_tupOO {t1 t2 l1 l2 : Nat} {o1 o2 : OB} {Θ : Tab} (h1 : s.sl t1 = .own l1) (h2 : s.sl t2 = .own l2) (ho1 : s.hp l1 = some o1) (ho2 : s.hp l2 = some o2) (hn : Nat.beq l1 l2 = false) : RetQ Θ [.tmp t1, .tmp t2] ⟨.tup [.own 0, .own 1], [o1, o2]⟩ .ret s :=
  ⟨[l1, l2], by simp; intro e; rw [e] at hn; simp at hn, ⟨ho1, ho2, trivial⟩, ⟨trivial, trivial, trivial⟩, ⟨_, rfl⟩, ⟨.inr (.inl ⟨l1, 0, h1, rfl, rfl⟩), .inr (.inl ⟨l2, 1, h2, rfl, rfl⟩), trivial⟩⟩
end
end Go.Proofs.Ytciacgmdeaihlaa.AM
