/- The machine over data: a region's operations, in whatever order they may come. -/
import Derived.Test.YtciacgmdeaihlaaAm9
import Derived.Orders
namespace Go.Proofs.Ytciacgmdeaihlaa.AM
open Go Go.RowKit
set_option linter.unusedVariables false

/-! ### a step leans on its operands alone -/
section
variable {P : Program} {Θ : Tab} {s s' : St}
theorem dat_congr (hh : s.hp = s'.hp) (x : AV) : s.dat x = s'.dat x := by cases x <;> simp [St.dat, hh]
theorem ownsOf_congr : ∀ (xs : List Operand), (∀ x ∈ xs, s.ev x = s'.ev x) → ownsOf s xs = ownsOf s' xs
  | [], _ => rfl
  | x :: xs, h => by unfold ownsOf; rw [h x (by simp), ownsOf_congr xs (fun y hy => h y (List.mem_cons_of_mem _ hy))]
theorem argsOK_congr : ∀ (xs : List Operand), (∀ x ∈ xs, s.ev x = s'.ev x) → argsOK s xs = argsOK s' xs
  | [], _ => rfl
  | x :: xs, h => by unfold argsOK; rw [h x (by simp), argsOK_congr xs (fun y hy => h y (List.mem_cons_of_mem _ hy))]
theorem parts_congr (hh : s.hp = s'.hp) : ∀ (ps : List (Nat × Operand)) (z : List AV), (∀ x ∈ ps, s.ev x.2 = s'.ev x.2) → setParts s z ps = setParts s' z ps ∧ (partsOK s z ps ↔ partsOK s' z ps)
  | [], z, _ => ⟨rfl, Iff.rfl⟩
  | (i, x) :: ps, z, h => by
    have hx := h (i, x) (by simp)
    simp only at hx
    have ih := parts_congr hh ps (z.set i (s'.dat (s'.ev x))) (fun y hy => h y (List.mem_cons_of_mem _ hy))
    unfold setParts partsOK
    rw [hx, dat_congr hh]
    exact ⟨ih.1, by rw [ih.2]⟩
theorem freeObs_congr (hh : s.hp = s'.hp) (d : Nat) : ∀ (obs : List OB) (k : Nat), freeObs s d k obs ↔ freeObs s' d k obs
  | [], k => Iff.rfl
  | _ :: obs, k => by unfold freeObs; rw [hh, freeObs_congr hh d obs (k + 1)]
theorem lenA_congr (hh : s.hp = s'.hp) (x : AV) : lenA s x = lenA s' x := by cases x <;> simp [lenA, hh]
theorem Pre_congr (hh : s.hp = s'.hp) {o : Oper} {e : Eff} (he : ∀ x ∈ o.op.operands, s.ev x = s'.ev x) (h : Pre P Θ o s e) : Pre P Θ o s' e := by
  obtain ⟨dst, op, ty, pos, after, guard⟩ := o
  cases op <;> simp only [Op.operands] at he
  case build t ps =>
    simp only [Pre] at h ⊢
    have hm : ∀ x ∈ ps.toList, s.ev x.2 = s'.ev x.2 := fun x hx => he x.2 (by simpa using ⟨x.1, by simpa using hx⟩)
    obtain ⟨fs, z, ht, hp, rfl⟩ := h
    have hc := parts_congr hh ps.toList z hm
    have ho := ownsOf_congr (ps.toList.map (·.2)) (fun x hx => by obtain ⟨y, hy, rfl⟩ := List.mem_map.1 hx; exact hm y hy)
    exact ⟨fs, z, ht, hc.2.1 hp, by rw [hc.1, ho]⟩
  case buildSlice t m ps =>
    simp only [Pre] at h ⊢
    have hm : ∀ x ∈ ps.toList, s.ev x.2 = s'.ev x.2 := fun x hx => he x.2 (by simpa using ⟨x.1, by simpa using hx⟩)
    obtain ⟨d, el, sz, b, z, hd, hf, ht, hn, hp, rfl⟩ := h
    have hc := parts_congr hh ps.toList (List.replicate m z) hm
    have ho := ownsOf_congr (ps.toList.map (·.2)) (fun x hx => by obtain ⟨y, hy, rfl⟩ := List.mem_map.1 hx; exact hm y hy)
    exact ⟨d, el, sz, b, z, hd, hh ▸ hf, ht, hn, hc.2.1 hp, by rw [hc.1, ho]⟩
  case call c =>
    obtain ⟨callee, ags, ts⟩ := c
    cases callee with
    | invoke r m => simp only [Pre] at h
    | builtin b =>
      simp only [Call.operands] at he
      cases b <;> simp only [Pre] at h ⊢
      case len =>
        obtain ⟨x, t, m, rfl, rfl, hl, hok, rfl⟩ := h
        have := he x (by simp)
        exact ⟨x, t, m, rfl, rfl, by rw [← this, ← lenA_congr hh]; exact hl, by rw [← this]; exact hok, rfl⟩
      case append =>
        obtain ⟨x, y, t, el, sz, b, z, l, ob, ys, rfl, rfl, ht, hx, ho, h0, h1, h2, hy, h3⟩ := h
        have e1 := he x (by simp)
        have e2 := he y (by simp)
        exact ⟨x, y, t, el, sz, b, z, l, ob, ys, rfl, rfl, ht, e1 ▸ hx, hh ▸ ho, h0, h1, h2, by rw [← e2, ← hh]; exact hy, h3⟩
    | value f =>
      simp only [Call.operands] at he
      cases f with
      | func f =>
        simp only [Pre] at h ⊢
        have hm : ∀ x ∈ ags.toList, s.ev x = s'.ev x := fun x hx => he x (by simp at hx ⊢; exact .inr hx)
        have hlist : (ags.toList.map fun x => s'.dat (s'.ev x)) = ags.toList.map fun x => s.dat (s.ev x) := List.map_congr_left fun x hx => by rw [hm x hx, dat_congr hh]
        rcases h with ⟨d, out, hd, hac, hfl, hfr, hok, hc, rfl⟩ | ⟨x, r, l, ob, xs', v, hag, hx, ho, hac, how, hok, hc, h1, rfl⟩
        · exact .inl ⟨d, out, hd, by rw [hlist]; exact hac, by rw [← ownsOf_congr _ hm]; exact hfl, (freeObs_congr hh (d + 1) _ _).1 hfr, by rw [← argsOK_congr _ hm]; exact hok, hc, rfl⟩
        · rw [hag] at hm
          have hm' : ∀ y ∈ r, s.ev y = s'.ev y := fun y hy => hm y (by simp [hy])
          refine .inr ⟨x, r, l, ob, xs', v, hag, (hm x (by simp)) ▸ hx, hh ▸ ho, ?_, by rw [← ownsOf_congr _ hm']; exact how, by rw [← argsOK_congr _ hm']; exact hok, hc, h1, rfl⟩
          have : (r.map fun x => s'.dat (s'.ev x)) = r.map fun x => s.dat (s.ev x) := List.map_congr_left fun x hx => by rw [hm' x hx, dat_congr hh]
          rw [this]; exact hac
      | _ => simp only [Pre] at h
  case slice t x lo hi mx =>
    simp only [Pre] at h ⊢
    obtain ⟨p, r, hx, hall, hr, h1, rfl⟩ := h
    have e1 := he x (by simp)
    have hlo : ∀ y ∈ lo.toList, s.ev y = s'.ev y := fun y hy => he y (by simp at hy ⊢; simp [hy])
    have hhi : ∀ y ∈ hi.toList, s.ev y = s'.ev y := fun y hy => he y (by simp at hy ⊢; simp [hy])
    have hmx : ∀ y ∈ mx.toList, s.ev y = s'.ev y := fun y hy => he y (by simp at hy ⊢; simp [hy])
    have hone : ∀ (m : Option Operand), (∀ y ∈ m.toList, s.ev y = s'.ev y) → (m.map fun y => (conc (s'.ev y)).getD undef) = m.map fun y => (conc (s.ev y)).getD undef := fun m hm => by
      cases m with
      | none => rfl
      | some y => simp [hm y (by simp)]
    refine ⟨p, r, e1 ▸ hx, fun y hy => ?_, by rw [hone lo hlo, hone hi hhi, hone mx hmx]; exact hr, h1, rfl⟩
    have hy' : s.ev y = s'.ev y := by
      rcases List.mem_append.1 hy with hy | hy
      · rcases List.mem_append.1 hy with hy | hy
        · exact hlo y hy
        · exact hhi y hy
      · exact hmx y hy
    rw [← hy']; exact hall y hy
  case box t x =>
    simp only [Pre] at h ⊢
    have e1 := he x (by simp)
    have e2 := ownsOf_congr (s := s) (s' := s') [x] (fun y hy => by simp at hy; subst hy; exact e1)
    rw [← e1, ← hh, ← e2, ← dat_congr hh]; exact h
  case store t x y =>
    simp only [Pre] at h ⊢
    have e1 := he x (by simp)
    have e2 := he y (by simp)
    have e3 := ownsOf_congr (s := s) (s' := s') [y] (fun q hq => by simp at hq; subst hq; exact e2)
    rw [← e1, ← e2, ← hh, ← e3, ← dat_congr hh]; exact h
  case alloc t => simp only [Pre] at h ⊢; rw [← hh]; exact h
  case move x => simp only [Pre] at h ⊢; rw [← he x (by simp), ← hh]; exact h
  case assign x => simp only [Pre] at h ⊢; rw [← he x (by simp), ← hh]; exact h
  case nilCheck x => simp only [Pre] at h ⊢; rw [← he x (by simp)]; exact h
  case pick c x y => simp only [Pre] at h ⊢; rw [← he c (by simp), ← he x (by simp), ← he y (by simp)]; exact h
  case binOp op t x y t2 => simp only [Pre] at h ⊢; rw [← he x (by simp), ← he y (by simp)]; exact h
  case unOp op t x => simp only [Pre] at h ⊢; rw [← he x (by simp)]; exact h
  case convert t1 t2 x => simp only [Pre] at h ⊢; rw [← he x (by simp)]; exact h
  case index t x i => simp only [Pre] at h ⊢; rw [← he x (by simp), ← he i (by simp)]; exact h
  case extract x i => simp only [Pre] at h ⊢; rw [← he x (by simp)]; exact h
  case makeSlice t l c => simp only [Pre] at h ⊢; rw [← he l (by simp), ← he c (by simp), ← hh]; exact h
  case load t x => simp only [Pre] at h ⊢; rw [← he x (by simp), ← hh]; exact h
  case fieldAddr t x f => simp only [Pre] at h ⊢; rw [← he x (by simp)]; exact h
  case indexAddr t x i => simp only [Pre] at h ⊢; rw [← he x (by simp), ← he i (by simp), ← hh]; exact h
  all_goals (simp only [Pre] at h)

theorem ev_put {d : Option Tmp} {v : AV} {x : Operand} (h : ∀ t, d = some t → x ≠ .tmp t) : (s.put d v).ev x = s.ev x := by
  cases d with
  | none => rfl
  | some t =>
    cases x with
    | tmp u =>
      have hne : u ≠ t := fun e => h t rfl (by rw [e])
      show (bif Nat.beq u t then v else s.sl u) = s.sl u
      rw [nbne hne]; rfl
    | _ => rfl
theorem hp_put {d : Option Tmp} {v : AV} : (s.put d v).hp = s.hp := by cases d <;> rfl
theorem put_comm (s : St) {x y : Option Tmp} (v u : AV) (h : ∀ d, x = some d → y ≠ some d) : (s.put x v).put y u = (s.put y u).put x v := by
  cases x with
  | none => cases y <;> rfl
  | some d =>
    cases y with
    | none => rfl
    | some e =>
      have hne : d ≠ e := fun he => h d rfl (he ▸ rfl)
      show St.mk _ _ = St.mk _ _
      congr 1
      funext j
      show (bif Nat.beq j e then u else bif Nat.beq j d then v else s.sl j) = (bif Nat.beq j d then v else bif Nat.beq j e then u else s.sl j)
      by_cases h1 : j = e
      · subst h1; simp [nbne (Ne.symm hne)]
      · rw [nbne h1]; simp
end

/-! ### the transitive order -/
theorem before_bits {ops : Array Oper} {j m : Nat} (h : ((Region.before ops).getD j 0).testBit m = true) : ∃ o, ops[j]? = some o ∧ ∃ e ∈ o.after, Region.binds .any e = true ∧ (e.on = m ∨ (e.on < j ∧ ((Region.before ops).getD e.on 0).testBit m = true)) := by
  let g : Array Nat → Oper → Nat := fun acc o => o.after.foldl (fun s e => if Region.binds .any e then s ||| 2 ^ e.on ||| acc.getD e.on 0 else s) 0
  have hg : ∀ (acc : Array Nat) (o : Oper) (m : Nat), (g acc o).testBit m = true → ∃ e ∈ o.after, Region.binds .any e = true ∧ (e.on = m ∨ (acc.getD e.on 0).testBit m = true) := by
    intro acc o m hm
    have key : ∀ (l : List Edge) (s : Nat), (l.foldl (fun s e => if Region.binds .any e then s ||| 2 ^ e.on ||| acc.getD e.on 0 else s) s).testBit m = true → s.testBit m = true ∨ ∃ e ∈ l, Region.binds .any e = true ∧ (e.on = m ∨ (acc.getD e.on 0).testBit m = true) := by
      intro l
      induction l with
      | nil => intro s h; exact .inl h
      | cons e l ih =>
        intro s h
        rcases ih _ h with h1 | ⟨e', he', hb, hr⟩
        · dsimp only at h1
          by_cases hb : Region.binds .any e = true
          · rw [if_pos hb] at h1
            simp only [Nat.testBit_or, Bool.or_eq_true, Nat.testBit_two_pow, decide_eq_true_eq] at h1
            rcases h1 with (h1 | h1) | h1
            · exact .inl h1
            · exact .inr ⟨e, by simp, hb, .inl h1⟩
            · exact .inr ⟨e, by simp, hb, .inr h1⟩
          · rw [if_neg hb] at h1; exact .inl h1
        · exact .inr ⟨e', List.mem_cons_of_mem _ he', hb, hr⟩
    have h0 := hm
    simp only [g, ← Array.foldl_toList] at h0
    rcases key _ _ h0 with h1 | ⟨e, he, r⟩
    · simp at h1
    · exact ⟨e, by simpa using he, r⟩
  have hfold : ∀ (l : List Oper) (acc : Array Nat), (l.foldl (fun acc o => acc.push (g acc o)) acc).size = acc.size + l.length ∧ (∀ k, k < acc.size → (l.foldl (fun acc o => acc.push (g acc o)) acc)[k]? = acc[k]?) ∧
      ∀ t o, l[t]? = some o → ∃ pre : Array Nat, pre.size = acc.size + t ∧ (l.foldl (fun acc o => acc.push (g acc o)) acc)[acc.size + t]? = some (g pre o) ∧ ∀ k, k < pre.size → (l.foldl (fun acc o => acc.push (g acc o)) acc)[k]? = pre[k]? := by
    intro l
    induction l with
    | nil => intro acc; exact ⟨by simp, fun _ _ => rfl, fun t o h => by simp at h⟩
    | cons x l ih =>
      intro acc
      obtain ⟨h1, h2, h3⟩ := ih (acc.push (g acc x))
      simp only [List.foldl_cons]
      refine ⟨by rw [h1]; simp; omega, fun k hk => by rw [h2 k (by simp; omega), Array.getElem?_push, if_neg (by omega)], fun t o ho => ?_⟩
      cases t with
      | zero =>
        simp at ho; subst ho
        refine ⟨acc, rfl, by rw [Nat.add_zero, h2 acc.size (by simp)]; simp, fun k hk => by rw [h2 k (by simp; omega), Array.getElem?_push, if_neg (by omega)]⟩
      | succ t =>
        obtain ⟨pre, p1, p2, p3⟩ := h3 t o (by simpa using ho)
        simp at p1 p2
        exact ⟨pre, by rw [p1]; omega, by rw [show acc.size + (t + 1) = acc.size + 1 + t from by omega]; exact p2, p3⟩
  have heq : Region.before ops = ops.toList.foldl (fun acc o => acc.push (g acc o)) #[] := by rw [Array.foldl_toList]; rfl
  obtain ⟨q1, _, q3⟩ := hfold ops.toList #[]
  rw [← heq] at q1 q3
  cases ho : ops[j]? with
  | none =>
    have : ops.size ≤ j := by simpa using ho
    have h0 : (Region.before ops).getD j 0 = 0 := by
      have : (Region.before ops)[j]? = none := Array.getElem?_eq_none (by rw [q1]; simpa using this)
      simp [Array.getD_eq_getD_getElem?, this]
    rw [h0] at h; simp at h
  | some o =>
    obtain ⟨pre, p1, p2, p3⟩ := q3 j o (by simpa using ho)
    simp at p1 p2
    have hv : (Region.before ops).getD j 0 = g pre o := by simp [Array.getD_eq_getD_getElem?, p2]
    rw [hv] at h
    obtain ⟨e, he, hb, hr⟩ := hg pre o m h
    refine ⟨o, rfl, e, he, hb, ?_⟩
    rcases hr with hr | hr
    · exact .inl hr
    · by_cases hlt : e.on < j
      · refine .inr ⟨hlt, ?_⟩
        have := p3 e.on (by omega)
        rw [Array.getD_eq_getD_getElem?, this, ← Array.getD_eq_getD_getElem?]; exact hr
      · have : pre.getD e.on 0 = 0 := by simp [Array.getD_eq_getD_getElem?, Array.getElem?_eq_none (show pre.size ≤ e.on by omega)]
        rw [this] at hr; simp at hr

def Closed (ops : Array Oper) (listed : Array Bool) : Prop := ∀ j o, ops[j]? = some o → listed.getD j false = true → ∀ e ∈ o.after, Region.binds .any e = true → listed.getD e.on false = true
theorem closed_before {ops : Array Oper} {listed : Array Bool} (hc : Closed ops listed) : ∀ (j : Nat) {m : Nat}, (∀ o, ops[j]? = some o → ∀ e ∈ o.after, Region.binds .any e = true → listed.getD e.on false = true) → ((Region.before ops).getD j 0).testBit m = true → listed.getD m false = true := by
  intro j
  induction j using Nat.strongRecOn with
  | _ j ih =>
    intro m hp hb
    obtain ⟨o, ho, e, he, hbi, hr⟩ := before_bits hb
    have hl := hp o ho e he hbi
    rcases hr with rfl | ⟨hlt, hr⟩
    · exact hl
    · exact ih e.on hlt (fun o' ho' e' he' hb' => hc e.on o' ho' hl e' he' hb') hr
theorem tied_alone {ops : Array Oper} {listed : Array Bool} (hc : Closed ops listed) {i j : Nat} (hi : i ∈ Region.ready .any ops listed) (hj : j ∈ Region.ready .any ops listed) (ht : tied ops i = true) : j = i := by
  apply Classical.byContradiction
  intro hne
  obtain ⟨ui, oi, hoi, pi⟩ := mem_ready.1 hi
  obtain ⟨uj, oj, hoj, pj⟩ := mem_ready.1 hj
  have hjl : j < ops.size := (Array.getElem?_eq_some_iff.1 hoj).1
  unfold tied at ht
  have := List.all_eq_true.1 ht j (List.mem_range.2 hjl)
  simp only [nbne hne, Bool.false_or] at this
  have unl : ∀ {k : Nat}, listed.getD k true = false → listed.getD k false = true → False := fun {k} h1 h2 => by
    rcases Nat.lt_or_ge k listed.size with h' | h'
    · simp [h'] at h1 h2; rw [h1] at h2; cases h2
    · simp [Array.getElem?_eq_none h'] at h1
  cases hb : Nat.blt j i with
  | true =>
    rw [hb] at this
    exact unl uj (closed_before hc i (fun o ho e he hbi => by rw [hoi] at ho; cases ho; exact pi e he hbi) (by simpa using this))
  | false =>
    rw [hb] at this
    exact unl ui (closed_before hc j (fun o ho e he hbi => by rw [hoj] at ho; cases ho; exact pj e he hbi) (by simpa using this))
theorem Closed.list {ops : Array Oper} {listed : Array Bool} (hc : Closed ops listed) {i : Nat} (hi : i ∈ Region.ready .any ops listed) : Closed ops (listed.setIfInBounds i true) := by
  intro j o ho hl e he hb
  obtain ⟨ui, oi, hoi, pi⟩ := mem_ready.1 hi
  by_cases hji : j = i
  · subst hji
    rw [hoi] at ho; cases ho
    exact getD_set_true (pi e he hb)
  · rw [getD_set_ne false (Ne.symm hji)] at hl
    exact getD_set_true (hc j o ho hl e he hb)
end Go.Proofs.Ytciacgmdeaihlaa.AM
