/- The machine over data, second make (N14): a region's operations, in whatever order they may come; bodies. -/
import Derived.Test.YtmafbodblpgcjaaN13
namespace Go.Proofs.Ytmafbodblpgcjaa.AM
open Go Go.RowKit
set_option linter.unusedVariables false
set_option linter.unusedSimpArgs false

/-! ### a step leans on its operands alone -/
section
variable {P : Program} {Θ : Tab} {s s' : St}
mutual
theorem dat_congr (hh : s.hp = s'.hp) : ∀ x : AV, s.dat x = s'.dat x
  | .own l => by simp only [St.dat, hh]
  | .optr l i p c => by simp only [St.dat, hh]
  | .mix xs => by simp only [St.dat, datL_congr hh xs]
  | .ifc t x => by simp only [St.dat, dat_congr hh x]
  | .rd x => rfl
  | .any => rfl
  | .v _ => rfl
  | .agg _ => rfl
  | .lst _ _ => rfl
  | .ptr _ => rfl
  | .tup _ => rfl
  | .mapv _ => rfl
  | .fn _ _ _ => rfl
theorem datL_congr (hh : s.hp = s'.hp) : ∀ xs : List AV, s.datL xs = s'.datL xs
  | [] => rfl
  | x :: xs => by simp only [St.datL, dat_congr hh x, datL_congr hh xs]
end
mutual
theorem isDataA_congr (hh : s.hp = s'.hp) : ∀ x : AV, isDataA s x = isDataA s' x
  | .own l => by simp only [isDataA, hh]
  | .optr l i p c => by simp only [isDataA, hh]
  | .mix xs => by simp only [isDataA, isDataL_congr hh xs]
  | .ifc t x => rfl
  | .rd x => rfl
  | .any => rfl
  | .v _ => rfl
  | .agg _ => rfl
  | .lst _ _ => rfl
  | .ptr _ => rfl
  | .tup _ => rfl
  | .mapv _ => rfl
  | .fn _ _ _ => rfl
theorem isDataL_congr (hh : s.hp = s'.hp) : ∀ xs : List AV, isDataL s xs = isDataL s' xs
  | [] => rfl
  | x :: xs => by simp only [isDataL, isDataA_congr hh x, isDataL_congr hh xs]
end
theorem argA_congr (hh : s.hp = s'.hp) (x : AV) : argA s x = argA s' x := by
  cases x with
  | fn f xs ys => cases xs <;> cases ys <;> rfl
  | _ => first | rfl | exact isDataA_congr hh _
theorem argsA_congr (hh : s.hp = s'.hp) : ∀ xs : List AV, argsA s xs = argsA s' xs
  | [] => rfl
  | x :: xs => by simp only [argsA, argA_congr hh x, argsA_congr hh xs]
mutual
theorem argH_congr (hh : s.hp = s'.hp) (Ls : List Nat) : ∀ x : AV, argH s Ls x = argH s' Ls x
  | .own l => by simp only [argH, isDataA_congr hh]
  | .optr l i p c => by simp only [argH, isDataA_congr hh]
  | .mix xs => by simp only [argH, isDataL_congr hh xs]
  | .ifc t x => by simp only [argH, argH_congr hh Ls x]
  | .fn _ xs ys => by simp only [argH, argsH_congr hh Ls xs, argsH_congr hh Ls ys]
  | .rd x => rfl
  | .any => rfl
  | .v _ => rfl
  | .agg _ => rfl
  | .lst _ _ => rfl
  | .ptr _ => rfl
  | .tup _ => rfl
  | .mapv _ => rfl
theorem argsH_congr (hh : s.hp = s'.hp) (Ls : List Nat) : ∀ xs : List AV, argsH s Ls xs = argsH s' Ls xs
  | [] => rfl
  | x :: xs => by simp only [argsH, argH_congr hh Ls x, argsH_congr hh Ls xs]
end
mutual
theorem datH_congr (hh : s.hp = s'.hp) (Ls : List Nat) : ∀ x : AV, s.datH Ls x = s'.datH Ls x
  | .own l => by simp only [St.datH, dat_congr hh]
  | .optr l i p c => by simp only [St.datH, dat_congr hh]
  | .mix xs => by simp only [St.datH, datL_congr hh xs]
  | .ifc t x => by simp only [St.datH, datH_congr hh Ls x]
  | .fn _ xs ys => by simp only [St.datH, datHL_congr hh Ls xs, datHL_congr hh Ls ys]
  | .rd x => rfl
  | .any => rfl
  | .v _ => rfl
  | .agg _ => rfl
  | .lst _ _ => rfl
  | .ptr _ => rfl
  | .tup _ => rfl
  | .mapv _ => rfl
theorem datHL_congr (hh : s.hp = s'.hp) (Ls : List Nat) : ∀ xs : List AV, s.datHL Ls xs = s'.datHL Ls xs
  | [] => rfl
  | x :: xs => by simp only [St.datHL, datH_congr hh Ls x, datHL_congr hh Ls xs]
end
theorem evs_congr {xs : List Operand} (h : ∀ x ∈ xs, s.ev x = s'.ev x) : xs.map s.ev = xs.map s'.ev := List.map_congr_left h
theorem parts_congr (hh : s.hp = s'.hp) : ∀ (ps : List (Nat × Operand)) (z : List AV), (∀ x ∈ ps, s.ev x.2 = s'.ev x.2) → setParts s z ps = setParts s' z ps ∧ (partsOK s z ps ↔ partsOK s' z ps)
  | [], z, _ => ⟨rfl, Iff.rfl⟩
  | (i, x) :: ps, z, h => by
    have hx := h (i, x) (by simp)
    simp only at hx
    have ih := parts_congr hh ps (z.set i (s'.dat (s'.ev x))) (fun y hy => h y (List.mem_cons_of_mem _ hy))
    unfold setParts partsOK
    rw [hx, dat_congr hh, isDataA_congr hh]
    exact ⟨ih.1, by rw [ih.2]⟩
theorem mix_congr : ∀ (ps : List (Nat × Operand)) (z : List AV), (∀ x ∈ ps, s.ev x.2 = s'.ev x.2) → mixParts s z ps = mixParts s' z ps ∧ (mixOK s z ps ↔ mixOK s' z ps)
  | [], z, _ => ⟨rfl, Iff.rfl⟩
  | (i, x) :: ps, z, h => by
    have hx := h (i, x) (by simp)
    simp only at hx
    have ih := mix_congr ps (z.set i ((toO (s'.ev x)).getD .any)) (fun y hy => h y (List.mem_cons_of_mem _ hy))
    unfold mixParts mixOK
    rw [hx]
    exact ⟨ih.1, by rw [ih.2]⟩
theorem freeObs_congr (hh : s.hp = s'.hp) (d : Nat) : ∀ (obs : List OB) (k : Nat), freeObs s d k obs ↔ freeObs s' d k obs
  | [], k => Iff.rfl
  | _ :: obs, k => by unfold freeObs; rw [hh, freeObs_congr hh d obs (k + 1)]
theorem handed_congr (hh : s.hp = s'.hp) (Ls : List Nat) : ∀ (L : List Nat) (obs : List OB), handed s Ls L obs ↔ handed s' Ls L obs
  | [], [] => Iff.rfl
  | [], _ :: _ => Iff.rfl
  | _ :: _, [] => Iff.rfl
  | l :: L, o :: obs => by unfold handed; rw [hh, handed_congr hh Ls L obs]
theorem lenA_congr (hh : s.hp = s'.hp) (x : AV) : lenA s x = lenA s' x := by
  cases x with
  | v c => unfold lenA; simp only [hh]
  | own l => simp only [lenA, hh]
  | _ => rfl
theorem Pre_congr (hh : s.hp = s'.hp) (hmp : s.mp = s'.mp) {o : Oper} {e : Eff} (he : ∀ x ∈ o.op.operands, s.ev x = s'.ev x) (h : Pre P Θ o s e) : Pre P Θ o s' e := by
  obtain ⟨dst, op, ty, pos, after, guard⟩ := o
  cases op <;> simp only [Op.operands] at he
  case build t ps =>
    simp only [Pre] at h ⊢
    have hm : ∀ x ∈ ps.toList, s.ev x.2 = s'.ev x.2 := fun x hx => he x.2 (by simpa using ⟨x.1, by simpa using hx⟩)
    have ho : ownsOf s (ps.toList.map (·.2)) = ownsOf s' (ps.toList.map (·.2)) := by unfold ownsOf; rw [evs_congr (s := s) (s' := s') (fun x hx => by obtain ⟨y, hy, rfl⟩ := List.mem_map.1 hx; exact hm y hy)]
    obtain ⟨fs, z, ht, ⟨hp, hc, hall, rfl⟩ | ⟨hp, hc, rfl⟩⟩ := h
    · have hcc := parts_congr hh ps.toList z hm
      exact ⟨fs, z, ht, .inl ⟨hcc.2.1 hp, hc, ho ▸ hall, by rw [hcc.1, ho]⟩⟩
    · have hcc := mix_congr ps.toList (nilL z) hm
      exact ⟨fs, z, ht, .inr ⟨hcc.2.1 hp, hc, by rw [hcc.1]⟩⟩
  case buildSlice t m ps =>
    simp only [Pre] at h ⊢
    have hm : ∀ x ∈ ps.toList, s.ev x.2 = s'.ev x.2 := fun x hx => he x.2 (by simpa using ⟨x.1, by simpa using hx⟩)
    have ho : ownsOf s (ps.toList.map (·.2)) = ownsOf s' (ps.toList.map (·.2)) := by unfold ownsOf; rw [evs_congr (s := s) (s' := s') (fun x hx => by obtain ⟨y, hy, rfl⟩ := List.mem_map.1 hx; exact hm y hy)]
    obtain ⟨d, el, sz, b, z, hd, hf, hok, ht, hn, ⟨hp, hc, hall, rfl⟩ | ⟨x, y, hn1, rfl, hc, hy, hsz, rfl⟩⟩ := h
    · have hcc := parts_congr hh ps.toList (List.replicate m z) hm
      exact ⟨d, el, sz, b, z, hd, hh ▸ hf, hok, ht, hn, .inl ⟨hcc.2.1 hp, hc, ho ▸ hall, by rw [hcc.1, ho]⟩⟩
    · exact ⟨d, el, sz, b, z, hd, hh ▸ hf, hok, ht, hn, .inr ⟨x, y, hn1, rfl, hc, by rw [← hm (0, x) (by simp)]; exact hy, hsz, rfl⟩⟩
  case call c =>
    obtain ⟨callee, ags, ts⟩ := c
    cases callee with
    | invoke r m => simp only [Pre] at h
    | builtin b =>
      simp only [Call.operands] at he
      have gen : (∃ vs r, (ags.toList.mapM fun x => conc (s.ev x)) = some vs ∧ (∀ w, (builtin b ts ty (ags.map fun | .const _ => true | _ => false) vs.toArray).run P w = .ok (.value r) w) ∧ r.oneCell' = true ∧ e = ⟨.v r, none⟩) → (∃ vs r, (ags.toList.mapM fun x => conc (s'.ev x)) = some vs ∧ (∀ w, (builtin b ts ty (ags.map fun | .const _ => true | _ => false) vs.toArray).run P w = .ok (.value r) w) ∧ r.oneCell' = true ∧ e = ⟨.v r, none⟩) := fun ⟨vs, r, h1, h2⟩ => by
        refine ⟨vs, r, ?_, h2⟩
        rw [← h1]
        have : ∀ l : List Operand, (∀ x ∈ l, s.ev x = s'.ev x) → (l.mapM fun x => conc (s'.ev x)) = l.mapM fun x => conc (s.ev x) := by
          intro l
          induction l with
          | nil => intro _; rfl
          | cons x l ih => intro hx; simp only [List.mapM_cons, hx x (by simp), ih (fun y hy => hx y (List.mem_cons_of_mem _ hy))]
        exact this _ (fun x hx => he x (by simp at hx ⊢; exact hx))
      by_cases hb1 : b = .len
      · subst hb1
        simp only [Pre] at h ⊢
        obtain ⟨x, t, m, rfl, rfl, hl, hok, rfl⟩ := h
        have := he x (by simp)
        exact ⟨x, t, m, rfl, rfl, by rw [← this, ← lenA_congr hh]; exact hl, by rw [← this]; exact hok, rfl⟩
      by_cases hb3 : b = .delete
      · subst hb3
        simp only [Pre] at h ⊢
        obtain ⟨x, y, t, t2, l, ent, kk, kt, vt, z, rfl, rfl, ht, hx, hm, hy, rfl⟩ := h
        exact ⟨x, y, t, t2, l, ent, kk, kt, vt, z, rfl, rfl, ht, he x (by simp) ▸ hx, hmp ▸ hm, he y (by simp) ▸ hy, rfl⟩
      by_cases hb2 : b = .append
      · subst hb2
        simp only [Pre] at h ⊢
        obtain ⟨x, y, t, el, sz, b, z, l, ob, ys, rfl, rfl, ht, hx, ho, h0, h1, h2, h3, hy⟩ := h
        have e1 := he x (by simp)
        have e2 := he y (by simp)
        exact ⟨x, y, t, el, sz, b, z, l, ob, ys, rfl, rfl, ht, e1 ▸ hx, hh ▸ ho, h0, h1, h2, h3, by rw [← e2, ← hh]; exact hy⟩
      cases b <;> first | exact absurd rfl hb1 | exact absurd rfl hb2 | exact absurd rfl hb3 | exact gen h
    | value g =>
      simp only [Call.operands] at he
      simp only [Pre] at h ⊢
      have hm : ∀ x ∈ ags.toList, s.ev x = s'.ev x := fun x hx => he x (by simp at hx ⊢; exact .inr hx)
      have hgg := he g (by simp)
      obtain ⟨f, xs, ys, d, out, hg, hd, hcs, h⟩ := h
      refine ⟨f, xs, ys, d, out, hgg ▸ hg, hd, hcs, ?_⟩
      rw [evs_congr hm] at h
      generalize xs ++ ags.toList.map s'.ev ++ ys = A at *
      rcases h with ⟨args, ha, hac, hfr, hok, h⟩ | ⟨args, rin, rout, Ls, ha, hac, hhd, hnd, hsz, hfr, hok, hwi, hwe, hfl, rfl⟩
      · refine .inl ⟨args, ?_, hac, (freeObs_congr hh (d + 1) _ _).1 hfr, by rw [← argsA_congr hh]; exact hok, h⟩
        rw [← ha]; exact List.map_congr_left fun x _ => (dat_congr hh x).symm
      · exact .inr ⟨args, rin, rout, Ls, by rw [← datHL_congr hh]; exact ha, hac, (handed_congr hh Ls _ _).1 hhd, hnd, hsz, (freeObs_congr hh (d + 1) _ _).1 hfr, by rw [← argsH_congr hh]; exact hok, hwi, hwe, hfl, rfl⟩
  case slice t x lo hi mx =>
    simp only [Pre] at h ⊢
    have e1 := he x (by simp)
    have hlo : ∀ y ∈ lo.toList, s.ev y = s'.ev y := fun y hy => he y (by simp at hy ⊢; simp [hy])
    have hhi : ∀ y ∈ hi.toList, s.ev y = s'.ev y := fun y hy => he y (by simp at hy ⊢; simp [hy])
    have hmx : ∀ y ∈ mx.toList, s.ev y = s'.ev y := fun y hy => he y (by simp at hy ⊢; simp [hy])
    rcases h with ⟨p, r, hx, hall, hr, h1, rfl⟩ | ⟨el, sz, b, z, xs, l, h', ht, hmx0, hx, hl, hh', h1, h2, rfl⟩
    · have hone : ∀ (m : Option Operand), (∀ y ∈ m.toList, s.ev y = s'.ev y) → (m.map fun y => (conc (s'.ev y)).getD undef) = m.map fun y => (conc (s.ev y)).getD undef := fun m hm => by
        cases m with
        | none => rfl
        | some y => simp [hm y (by simp)]
      refine .inl ⟨p, r, e1 ▸ hx, fun y hy => ?_, by rw [hone lo hlo, hone hi hhi, hone mx hmx]; exact hr, h1, rfl⟩
      have hy' : s.ev y = s'.ev y := by
        rcases List.mem_append.1 hy with hy | hy
        · rcases List.mem_append.1 hy with hy | hy
          · exact hlo y hy
          · exact hhi y hy
        · exact hmx y hy
      rw [← hy']; exact hall y hy
    · refine .inr ⟨el, sz, b, z, xs, l, h', ht, hmx0, e1 ▸ hx, ?_, ?_, h1, h2, rfl⟩
      · cases lo with
        | none => exact hl
        | some y => unfold lowAt at hl ⊢; simp only at hl ⊢; rw [← hlo y (by simp)]; exact hl
      · cases hi with
        | none => exact hh'
        | some y => unfold highAt at hh' ⊢; simp only at hh' ⊢; rw [← hhi y (by simp)]; exact hh'
  case box t x =>
    simp only [Pre] at h ⊢
    have e1 := he x (by simp)
    rw [← e1, ← hh, ← dat_congr hh, ← isDataA_congr hh]; exact h
  case store t x y =>
    simp only [Pre] at h ⊢
    have e1 := he x (by simp)
    have e2 := he y (by simp)
    rw [← e1, ← e2, ← hh, ← dat_congr hh, ← isDataA_congr hh]; exact h
  case alloc t => simp only [Pre] at h ⊢; rw [← hh]; exact h
  case makeMap t r =>
    simp only [Pre] at h ⊢
    obtain ⟨d, kt, vt, z, hd, hf, hok, ht, hr, rfl⟩ := h
    exact ⟨d, kt, vt, z, hd, hh ▸ hf, hok, ht, fun x hx => by rw [← he x (by simpa using hx)]; exact hr x hx, rfl⟩
  case makeFunc fn f c =>
    simp only [Pre] at h ⊢
    obtain ⟨g, rfl, hc, rfl⟩ := h
    exact ⟨g, rfl, hc, by rw [evs_congr (s := s) (s' := s') (xs := f.toList) (fun x hx => he x (by simp at hx ⊢; exact .inl hx)), evs_congr (s := s) (s' := s') (xs := c.toList) (fun x hx => he x (by simp at hx ⊢; exact .inr hx))]⟩
  case makeInterface t x => simp only [Pre] at h ⊢; rw [← he x (by simp)]; exact h
  case mapUpdate t m k v => simp only [Pre] at h ⊢; rw [← he m (by simp), ← he k (by simp), ← he v (by simp), ← hmp]; exact h
  case lookup t m k ok => simp only [Pre] at h ⊢; rw [← he m (by simp), ← he k (by simp), ← hmp]; exact h
  case move x => simp only [Pre] at h ⊢; rw [← he x (by simp), ← hh]; exact h
  case assign x => simp only [Pre] at h ⊢; rw [← he x (by simp), ← hh]; exact h
  case nilCheck x => simp only [Pre] at h ⊢; rw [← he x (by simp)]; exact h
  case pick c x y => simp only [Pre] at h ⊢; rw [← he c (by simp), ← he x (by simp), ← he y (by simp)]; exact h
  case binOp op t x y t2 => simp only [Pre] at h ⊢; rw [← he x (by simp), ← he y (by simp)]; exact h
  case unOp op t x => simp only [Pre] at h ⊢; rw [← he x (by simp)]; exact h
  case convert t1 t2 x => simp only [Pre] at h ⊢; rw [← he x (by simp)]; exact h
  case index t x i => simp only [Pre] at h ⊢; rw [← he x (by simp), ← he i (by simp)]; exact h
  case extract x i => simp only [Pre] at h ⊢; rw [← he x (by simp)]; exact h
  case makeSlice t l c => simp only [Pre] at h ⊢; rw [← he l (by simp), ← he c (by simp), ← hh]; exact h
  case load t x => simp only [Pre] at h ⊢; rw [← he x (by simp), ← hh]; exact h
  case fieldAddr t x f => simp only [Pre] at h ⊢; rw [← he x (by simp)]; exact h
  case indexAddr t x i => simp only [Pre] at h ⊢; rw [← he x (by simp), ← he i (by simp), ← hh]; exact h
  all_goals (simp only [Pre] at h)

theorem ev_put {d : Option Tmp} {v : AV} {x : Operand} (h : ∀ t, d = some t → x ≠ .tmp t) : (s.put d v).ev x = s.ev x := by
  cases d with
  | none => rfl
  | some t =>
    cases x with
    | tmp u =>
      have hne : u ≠ t := fun e => h t rfl (by rw [e])
      show (bif Nat.beq u t then v else s.sl u) = s.sl u
      rw [nbne hne]; rfl
    | _ => rfl
theorem hp_put {d : Option Tmp} {v : AV} : (s.put d v).hp = s.hp := by cases d <;> rfl
theorem mp_put {d : Option Tmp} {v : AV} : (s.put d v).mp = s.mp := by cases d <;> rfl
theorem put_comm (s : St) {x y : Option Tmp} (v u : AV) (h : ∀ d, x = some d → y ≠ some d) : (s.put x v).put y u = (s.put y u).put x v := by
  cases x with
  | none => cases y <;> rfl
  | some d =>
    cases y with
    | none => rfl
    | some e =>
      have hne : d ≠ e := fun he => h d rfl (he ▸ rfl)
      show St.mk _ _ _ = St.mk _ _ _
      congr 1
      funext j
      show (bif Nat.beq j e then u else bif Nat.beq j d then v else s.sl j) = (bif Nat.beq j d then v else bif Nat.beq j e then u else s.sl j)
      by_cases h1 : j = e
      · subst h1; simp [nbne (Ne.symm hne)]
      · rw [nbne h1]; simp
end

/-! ### the transitive order -/
theorem before_bits {ops : Array Oper} {j m : Nat} (h : ((Region.before ops).getD j 0).testBit m = true) : ∃ o, ops[j]? = some o ∧ ∃ e ∈ o.after, Region.binds .any e = true ∧ (e.on = m ∨ (e.on < j ∧ ((Region.before ops).getD e.on 0).testBit m = true)) := by
  let g : Array Nat → Oper → Nat := fun acc o => o.after.foldl (fun s e => if Region.binds .any e then s ||| 2 ^ e.on ||| acc.getD e.on 0 else s) 0
  have hg : ∀ (acc : Array Nat) (o : Oper) (m : Nat), (g acc o).testBit m = true → ∃ e ∈ o.after, Region.binds .any e = true ∧ (e.on = m ∨ (acc.getD e.on 0).testBit m = true) := by
    intro acc o m hm
    have key : ∀ (l : List Edge) (s : Nat), (l.foldl (fun s e => if Region.binds .any e then s ||| 2 ^ e.on ||| acc.getD e.on 0 else s) s).testBit m = true → s.testBit m = true ∨ ∃ e ∈ l, Region.binds .any e = true ∧ (e.on = m ∨ (acc.getD e.on 0).testBit m = true) := by
      intro l
      induction l with
      | nil => intro s h; exact .inl h
      | cons e l ih =>
        intro s h
        rcases ih _ h with h1 | ⟨e', he', hb, hr⟩
        · dsimp only at h1
          by_cases hb : Region.binds .any e = true
          · rw [if_pos hb] at h1
            simp only [Nat.testBit_or, Bool.or_eq_true, Nat.testBit_two_pow, decide_eq_true_eq] at h1
            rcases h1 with (h1 | h1) | h1
            · exact .inl h1
            · exact .inr ⟨e, by simp, hb, .inl h1⟩
            · exact .inr ⟨e, by simp, hb, .inr h1⟩
          · rw [if_neg hb] at h1; exact .inl h1
        · exact .inr ⟨e', List.mem_cons_of_mem _ he', hb, hr⟩
    have h0 := hm
    simp only [g, ← Array.foldl_toList] at h0
    rcases key _ _ h0 with h1 | ⟨e, he, r⟩
    · simp at h1
    · exact ⟨e, by simpa using he, r⟩
  have hfold : ∀ (l : List Oper) (acc : Array Nat), (l.foldl (fun acc o => acc.push (g acc o)) acc).size = acc.size + l.length ∧ (∀ k, k < acc.size → (l.foldl (fun acc o => acc.push (g acc o)) acc)[k]? = acc[k]?) ∧
      ∀ t o, l[t]? = some o → ∃ pre : Array Nat, pre.size = acc.size + t ∧ (l.foldl (fun acc o => acc.push (g acc o)) acc)[acc.size + t]? = some (g pre o) ∧ ∀ k, k < pre.size → (l.foldl (fun acc o => acc.push (g acc o)) acc)[k]? = pre[k]? := by
    intro l
    induction l with
    | nil => intro acc; exact ⟨by simp, fun _ _ => rfl, fun t o h => by simp at h⟩
    | cons x l ih =>
      intro acc
      obtain ⟨h1, h2, h3⟩ := ih (acc.push (g acc x))
      simp only [List.foldl_cons]
      refine ⟨by rw [h1]; simp; omega, fun k hk => by rw [h2 k (by simp; omega), Array.getElem?_push, if_neg (by omega)], fun t o ho => ?_⟩
      cases t with
      | zero =>
        simp at ho; subst ho
        refine ⟨acc, rfl, by rw [Nat.add_zero, h2 acc.size (by simp)]; simp, fun k hk => by rw [h2 k (by simp; omega), Array.getElem?_push, if_neg (by omega)]⟩
      | succ t =>
        obtain ⟨pre, p1, p2, p3⟩ := h3 t o (by simpa using ho)
        simp at p1 p2
        exact ⟨pre, by rw [p1]; omega, by rw [show acc.size + (t + 1) = acc.size + 1 + t from by omega]; exact p2, p3⟩
  have heq : Region.before ops = ops.toList.foldl (fun acc o => acc.push (g acc o)) #[] := by rw [Array.foldl_toList]; rfl
  obtain ⟨q1, _, q3⟩ := hfold ops.toList #[]
  rw [← heq] at q1 q3
  cases ho : ops[j]? with
  | none =>
    have : ops.size ≤ j := by simpa using ho
    have h0 : (Region.before ops).getD j 0 = 0 := by
      have : (Region.before ops)[j]? = none := Array.getElem?_eq_none (by rw [q1]; simpa using this)
      simp [Array.getD_eq_getD_getElem?, this]
    rw [h0] at h; simp at h
  | some o =>
    obtain ⟨pre, p1, p2, p3⟩ := q3 j o (by simpa using ho)
    simp at p1 p2
    have hv : (Region.before ops).getD j 0 = g pre o := by simp [Array.getD_eq_getD_getElem?, p2]
    rw [hv] at h
    obtain ⟨e, he, hb, hr⟩ := hg pre o m h
    refine ⟨o, rfl, e, he, hb, ?_⟩
    rcases hr with hr | hr
    · exact .inl hr
    · by_cases hlt : e.on < j
      · refine .inr ⟨hlt, ?_⟩
        have := p3 e.on (by omega)
        rw [Array.getD_eq_getD_getElem?, this, ← Array.getD_eq_getD_getElem?]; exact hr
      · have : pre.getD e.on 0 = 0 := by simp [Array.getD_eq_getD_getElem?, Array.getElem?_eq_none (show pre.size ≤ e.on by omega)]
        rw [this] at hr; simp at hr

def Closed (ops : Array Oper) (listed : Array Bool) : Prop := ∀ j o, ops[j]? = some o → listed.getD j false = true → ∀ e ∈ o.after, Region.binds .any e = true → listed.getD e.on false = true
theorem closed_before {ops : Array Oper} {listed : Array Bool} (hc : Closed ops listed) : ∀ (j : Nat) {m : Nat}, (∀ o, ops[j]? = some o → ∀ e ∈ o.after, Region.binds .any e = true → listed.getD e.on false = true) → ((Region.before ops).getD j 0).testBit m = true → listed.getD m false = true := by
  intro j
  induction j using Nat.strongRecOn with
  | _ j ih =>
    intro m hp hb
    obtain ⟨o, ho, e, he, hbi, hr⟩ := before_bits hb
    have hl := hp o ho e he hbi
    rcases hr with rfl | ⟨hlt, hr⟩
    · exact hl
    · exact ih e.on hlt (fun o' ho' e' he' hb' => hc e.on o' ho' hl e' he' hb') hr
theorem tied_alone {ops : Array Oper} {listed : Array Bool} (hc : Closed ops listed) {i j : Nat} (hi : i ∈ Region.ready .any ops listed) (hj : j ∈ Region.ready .any ops listed) (ht : tied ops i = true) : j = i := by
  apply Classical.byContradiction
  intro hne
  obtain ⟨ui, oi, hoi, pi⟩ := mem_ready.1 hi
  obtain ⟨uj, oj, hoj, pj⟩ := mem_ready.1 hj
  have hjl : j < ops.size := (Array.getElem?_eq_some_iff.1 hoj).1
  unfold tied at ht
  have := List.all_eq_true.1 ht j (List.mem_range.2 hjl)
  simp only [nbne hne, Bool.false_or] at this
  have unl : ∀ {k : Nat}, listed.getD k true = false → listed.getD k false = true → False := fun {k} h1 h2 => by
    rcases Nat.lt_or_ge k listed.size with h' | h'
    · simp [h'] at h1 h2; rw [h1] at h2; cases h2
    · simp [Array.getElem?_eq_none h'] at h1
  cases hb : Nat.blt j i with
  | true =>
    rw [hb] at this
    exact unl uj (closed_before hc i (fun o ho e he hbi => by rw [hoi] at ho; cases ho; exact pi e he hbi) (by simpa using this))
  | false =>
    rw [hb] at this
    exact unl ui (closed_before hc j (fun o ho e he hbi => by rw [hoj] at ho; cases ho; exact pj e he hbi) (by simpa using this))
theorem Closed.list {ops : Array Oper} {listed : Array Bool} (hc : Closed ops listed) {i : Nat} (hi : i ∈ Region.ready .any ops listed) : Closed ops (listed.setIfInBounds i true) := by
  intro j o ho hl e he hb
  obtain ⟨ui, oi, hoi, pi⟩ := mem_ready.1 hi
  by_cases hji : j = i
  · subst hji
    rw [hoi] at ho; cases ho
    exact getD_set_true (pi e he hb)
  · rw [getD_set_ne false (Ne.symm hji)] at hl
    exact getD_set_true (hc j o ho hl e he hb)

section
variable {P : Program} {Θ : Tab} {n : Nat} {ops : Array Oper} {s : St}

def aOp (P : Program) (Θ : Tab) (n : Nat) (ops : Array Oper) (i : Nat) (K : St → Prop) (s : St) : Prop :=
  match ops[i]? with
  | none => K s
  | some o => inN n o.dst = true ∧ match guardA ops s o with
    | some true => ∃ e, Pre P Θ o s e ∧ (e.upd = none ∨ tied ops i = true) ∧ (K (s.app o.dst e) ∨ (tied ops i = true ∧ Gh K (s.app o.dst e)))
    | some false => K (s.put o.dst (.tup []))
    | none => False
theorem Gh.mono {K K' : St → Prop} (hk : ∀ s, K s → K' s) {s : St} (h : Gh K s) : Gh K' s := by
  induction h with
  | done h => exact .done (hk _ h)
  | opn l i h1 h2 _ ih => exact .opn l i h1 h2 ih
  | shut l h1 h2 _ ih => exact .shut l h1 h2 ih
  | fold l l' p h1 h2 h3 h4 h5 h6 _ ih => exact .fold l l' p h1 h2 h3 h4 h5 h6 ih
  | unfold l i L p h1 h2 h3 h4 h5 _ ih => exact .unfold l i L p h1 h2 h3 h4 h5 ih
  | nilx l i L p ek sz' h1 h2 h3 h4 h5 h6 h7 _ ih => exact .nilx l i L p ek sz' h1 h2 h3 h4 h5 h6 h7 ih
  | frz l h1 _ ih => exact .frz l h1 ih
  | drop l h1 _ ih => exact .drop l h1 ih
  | give l h1 h2 h3 _ ih => exact .give l h1 h2 h3 ih
  | z2d l h1 _ ih => exact .z2d l h1 ih
  | s2d l h1 h2 _ ih => exact .s2d l h1 h2 ih
  | d2s l h1 h2 _ ih => exact .d2s l h1 h2 ih
theorem aOp_mono {i : Nat} {K K' : St → Prop} (hk : ∀ s, K s → K' s) {s : St} (h : aOp P Θ n ops i K s) : aOp P Θ n ops i K' s := by
  unfold aOp at h ⊢
  split
  · rename_i ho; simp only [ho] at h; exact hk _ h
  · rename_i o ho
    simp only [ho] at h
    refine ⟨h.1, ?_⟩
    have h2 := h.2
    split
    · rename_i hg; simp only [hg] at h2; obtain ⟨e, h3, h4, h5⟩ := h2; exact ⟨e, h3, h4, h5.imp (hk _) (fun h => ⟨h.1, h.2.mono hk⟩)⟩
    · rename_i hg; simp only [hg] at h2; exact hk _ h2
    · rename_i hg; simp only [hg] at h2

def AAny (P : Program) (Θ : Tab) (n : Nat) (ops : Array Oper) (K : St → Prop) : Nat → Array Bool → St → Prop
  | 0, listed, s => Region.ready .any ops listed = [] ∧ K s
  | fuel + 1, listed, s => (Region.ready .any ops listed = [] → K s) ∧ ∀ i ∈ Region.ready .any ops listed, aOp P Θ n ops i (AAny P Θ n ops K fuel (listed.setIfInBounds i true)) s

theorem guardA_put {d : Option Tmp} {v : AV} {o : Oper} (h : ∀ t, d = some t → t ∉ o.looksAt ops) : guardA ops (s.put d v) o = guardA ops s o := by
  unfold guardA
  cases hg : o.guard with
  | none => rfl
  | some q =>
    obtain ⟨j, want⟩ := q
    cases hd : (ops[j]?).bind (·.dst) with
    | none => simp only [hd]
    | some t =>
      have : (s.put d v).sl t = s.sl t := by
        cases d with
        | none => rfl
        | some d =>
          have hne : t ≠ d := fun e => h d rfl (by subst e; simp [Oper.looksAt, hg, hd])
          show (bif Nat.beq t d then v else s.sl t) = s.sl t
          rw [nbne hne]; rfl
      simp only [hd, this]
theorem pre_put {d : Option Tmp} {v : AV} {o : Oper} {e : Eff} (h : ∀ t, d = some t → t ∉ o.looksAt ops) : Pre P Θ o (s.put d v) e ↔ Pre P Θ o s e := by
  have hev : ∀ x ∈ o.op.operands, (s.put d v).ev x = s.ev x := fun x hx => ev_put fun t ht hxt => h t ht (by
    subst hxt
    exact List.mem_append_left _ (List.mem_filterMap.2 ⟨.tmp t, by simpa using hx, rfl⟩))
  exact ⟨Pre_congr hp_put mp_put hev, Pre_congr hp_put.symm mp_put.symm (fun x hx => (hev x hx).symm)⟩

/-- an operation that yields its datum now and changes no row -/
def AYields (P : Program) (Θ : Tab) (n : Nat) (ops : Array Oper) (o : Oper) (s : St) (v : AV) : Prop :=
  inN n o.dst = true ∧ ((guardA ops s o = some true ∧ Pre P Θ o s ⟨v, none⟩) ∨ (guardA ops s o = some false ∧ v = .tup []))
theorem AYields.op {i : Nat} {o : Oper} {v : AV} (hi : ops[i]? = some o) (hy : AYields P Θ n ops o s v) {K : St → Prop} (hk : K (s.put o.dst v)) : aOp P Θ n ops i K s := by
  unfold aOp
  simp only [hi]
  refine ⟨hy.1, ?_⟩
  rcases hy.2 with ⟨hg, hp⟩ | ⟨hg, rfl⟩
  · simp only [hg]; exact ⟨_, hp, .inl rfl, .inl hk⟩
  · simp only [hg]; exact hk
theorem AYields.put {o : Oper} {v u : AV} {d : Option Tmp} (h : ∀ t, d = some t → t ∉ o.looksAt ops) (hy : AYields P Θ n ops o s v) : AYields P Θ n ops o (s.put d u) v := by
  refine ⟨hy.1, ?_⟩
  rw [guardA_put h, pre_put h]; exact hy.2

/-- an operation that changes no row may be taken first -/
theorem AAny_first {K : St → Prop} {i : Nat} {oi : Oper} {v : AV} (hi : ops[i]? = some oi) : ∀ (fuel : Nat) (listed : Array Bool) (s : St),
    Closed ops listed → (∀ j oj, ops[j]? = some oj → j ≠ i → listed.getD j true = false → (∀ e ∈ oj.after, Region.binds .any e = true → e.on ≠ i) → oi.apart ops oj = true) →
    i ∈ Region.ready .any ops listed → AYields P Θ n ops oi s v → AAny P Θ n ops K fuel (listed.setIfInBounds i true) (s.put oi.dst v) → AAny P Θ n ops K (fuel + 1) listed s := by
  intro fuel
  induction fuel with
  | zero =>
    intro listed s hcl _ hr hy H
    refine ⟨fun h => (by rw [h] at hr; cases hr), fun j hj => ?_⟩
    by_cases hji : j = i
    · subst hji; exact hy.op hi H
    · have := ready_mono hj hji
      rw [H.1] at this
      cases this
  | succ fuel ih =>
    intro listed s hcl hfree hr hy H
    refine ⟨fun h => (by rw [h] at hr; cases hr), fun j hj => ?_⟩
    by_cases hji : j = i
    · subst hji; exact hy.op hi H
    · have h1 := H.2 j (ready_mono hj hji)
      obtain ⟨hjun, oj, hoj, hall⟩ := mem_ready.1 hj
      have hnot : ∀ e ∈ oj.after, Region.binds .any e = true → e.on ≠ i := fun e he hb heq => by
        have h1 := hall e he hb
        have h0 := (mem_ready.1 hr).1
        rw [heq] at h1
        rcases Nat.lt_or_ge i listed.size with h' | h'
        · simp [h'] at h0 h1; rw [h0] at h1; cases h1
        · simp [Array.getElem?_eq_none h'] at h1
      obtain ⟨a1, a2, a3⟩ := Oper.apart_spec (hfree j oj hoj hji hjun hnot)
      have hfree' : ∀ k ok, ops[k]? = some ok → k ≠ i → (listed.setIfInBounds j true).getD k true = false →
          (∀ e ∈ ok.after, Region.binds .any e = true → e.on ≠ i) → oi.apart ops ok = true := fun k ok hk hki hun hno => by
        refine hfree k ok hk hki ?_ hno
        by_cases hjk : j = k
        · subst hjk; exact hjun
        · rw [getD_set_ne true hjk] at hun; exact hun
      have hcomm : (listed.setIfInBounds i true).setIfInBounds j true = (listed.setIfInBounds j true).setIfInBounds i true := Array.setIfInBounds_comm _ _ (Ne.symm hji)
      unfold aOp at h1 ⊢
      simp only [hoj] at h1 ⊢
      refine ⟨h1.1, ?_⟩
      have h2 := h1.2
      rw [guardA_put a1] at h2
      cases hg : guardA ops s oj with
      | none => rw [hg] at h2; exact h2.elim
      | some b =>
        cases b with
        | true =>
          rw [hg] at h2
          obtain ⟨e, hp, hu, hk⟩ := h2
          rcases hu with hu | hu
          · obtain ⟨u, up⟩ := e
            simp only at hu
            subst hu
            rcases hk with hk | ⟨ht, _⟩
            case inr => exact absurd (tied_alone hcl hj hr ht) (Ne.symm hji)
            refine ⟨⟨u, none⟩, (pre_put a1).1 hp, .inl rfl, .inl ?_⟩
            refine ih (listed.setIfInBounds j true) (s.put oj.dst u) (hcl.list hj) hfree' (ready_mono hr (Ne.symm hji)) (hy.put a3) ?_
            rw [← hcomm, put_comm s u v (fun d h1 h2 => a2 d h2 h1)]
            exact hk
          · exact absurd (tied_alone hcl hj hr hu) (Ne.symm hji)
        | false =>
          rw [hg] at h2
          refine ih (listed.setIfInBounds j true) (s.put oj.dst (.tup [])) (hcl.list hj) hfree' (ready_mono hr (Ne.symm hji)) (hy.put a3) ?_
          rw [← hcomm, put_comm s (.tup []) v (fun d h1 h2 => a2 d h2 h1)]
          exact h2

theorem AAny_lex {K : St → Prop} : ∀ (l : List Oper) (k : Nat) (listed : Array Bool) (s : St), Closed ops listed → (∀ j, l[j]? = ops[k + j]?) → Region.lexFrom .any ops l.length k listed = true → AOps P Θ n ops true k l s K → AAny P Θ n ops K l.length listed s
  | [], _, _, _, _, _, hB, h => ⟨by simpa [Region.lexFrom] using hB, h⟩
  | o :: l, k, listed, s, hcl, hl, hB, h => by
    have h0 : ops[k]? = some o := by simpa using (hl 0).symm
    simp only [List.length_cons, Region.lexFrom, Bool.and_eq_true] at hB
    obtain ⟨⟨hr, hf⟩, hB'⟩ := hB
    have hr' : k ∈ Region.ready .any ops listed := by simpa using hr
    have hrest : ∀ s', AOps P Θ n ops true (k + 1) l s' K → AAny P Θ n ops K l.length (listed.setIfInBounds k true) s' := fun s' h' =>
      AAny_lex l (k + 1) _ s' (hcl.list hr') (fun j => by have := hl (j + 1); simpa [Nat.add_assoc, Nat.add_comm 1 j] using this) hB' h'
    unfold AOps at h
    obtain ⟨hin, h⟩ := h
    cases hg : guardA ops s o with
    | none => rw [hg] at h; exact h.elim
    | some b =>
      cases b with
      | true =>
        rw [hg] at h
        obtain ⟨e, hp, hu, hk⟩ := h
        have htied : tied ops k = true → AAny P Θ n ops K (l.length + 1) listed s := fun ht => by
          refine ⟨fun h => (by rw [h] at hr'; cases hr'), fun j hj => ?_⟩
          have := tied_alone hcl hr' hj ht
          subst this
          unfold aOp
          simp only [h0, hg]
          exact ⟨hin, e, hp, .inr ht, hk.imp (hrest _) (fun h => ⟨h.1 rfl, h.2.mono hrest⟩)⟩
        rcases hk with hk' | hk'
        case inr => exact htied (hk'.1 rfl)
        rcases hu rfl with hu | hu
        · obtain ⟨u, up⟩ := e
          simp only at hu
          subst hu
          exact AAny_first h0 l.length listed s hcl (Region.free_spec h0 hf) hr' ⟨hin, .inl ⟨hg, hp⟩⟩ (hrest _ hk')
        · exact htied hu
      | false =>
        rw [hg] at h
        exact AAny_first h0 l.length listed s hcl (Region.free_spec h0 hf) hr' ⟨hin, .inr ⟨hg, rfl⟩⟩ (hrest _ h)
end

section
variable {P : Program} {Θ : Tab} {W : World} {M : Hand} {S0 : Nat → Prop} {n : Nat} {ops : Array Oper} {s : St} {a : Act} {w : World} {Q : Exit → Act → World → Prop}

theorem guard_wanted (hs : Sim W M S0 n s a w) {o : Oper} {b : Bool} (h : guardA ops s o = some b) : Region.wanted o (yielded ops a.tmps) = b := by
  obtain ⟨_, _, S, B, V, _, h1⟩ := hs
  unfold guardA at h
  unfold Region.wanted
  cases hg : o.guard with
  | none => rw [hg] at h; simpa using h
  | some q =>
    obtain ⟨j, want⟩ := q
    rw [hg] at h
    simp only at h ⊢
    cases hd : (ops[j]?).bind (·.dst) with
    | none => rw [hd] at h; cases h
    | some t =>
      rw [hd] at h
      simp only at h
      have ht := h1.sl t
      have hy : yielded ops a.tmps j = match a.tmps[t]? with | some (.bool b) => some b | _ => none := by unfold yielded; rw [hd]; rfl
      rw [hy]
      cases hx : s.sl t with
      | v x =>
        rw [hx] at h ht
        unfold RV at ht
        cases x <;> simp at h
        rename_i c
        cases hq : a.tmps[t]? with
        | none => simp [Array.getD_eq_getD_getElem?, hq, undef] at ht
        | some y =>
          simp [Array.getD_eq_getD_getElem?, hq] at ht
          rw [ht.1]; simp [← h]
      | tup ys =>
        rw [hx] at h ht
        unfold RV at ht
        cases ys with
        | nil =>
          simp at h
          subst h
          obtain ⟨us, e, hr⟩ := ht
          cases hq : a.tmps[t]? with
          | none => simp
          | some y =>
            simp [Array.getD_eq_getD_getElem?, hq] at e
            rw [e]; simp
        | cons _ _ => simp at h
      | _ => rw [hx] at h; simp at h

theorem skip_sim (hs : Sim W M S0 n s a w) {d : Option Tmp} (hin : inN n d = true) : Sim W M S0 n (s.put d (.tup [])) (a.put d undef) w := by
  obtain ⟨hn, hdf, S, B, V, T, h⟩ := hs
  refine Sim.put hn hdf h d ?_ hin
  unfold RV
  exact ⟨[], rfl, by unfold RVs; rfl⟩
theorem aany_sound (hΘ : TabOK P Θ) {K : St → Prop} (hq : ∀ s a w, Sim W M S0 n s a w → K s → Q .normal a w) : ∀ (fuel : Nat) (listed : Array Bool) (s : St) (a : Act) (w : World), Sim W M S0 n s a w → AAny P Θ n ops K fuel listed s → wpAny P .any ops Q fuel listed a w := by
  intro fuel
  induction fuel with
  | zero => intro listed s a w hs h; exact ⟨h.1, hq s a w hs h.2⟩
  | succ fuel ih =>
    intro listed s a w hs h
    refine ⟨fun hr => hq s a w hs (h.1 hr), fun i hi => ?_⟩
    have h1 := h.2 i hi
    unfold aOp at h1
    unfold wpOp
    cases ho : ops[i]? with
    | none => simp only [ho] at h1 ⊢; exact ih _ _ _ _ hs h1
    | some o =>
      simp only [ho] at h1 ⊢
      obtain ⟨hin, h2⟩ := h1
      cases hg : guardA ops s o with
      | none => rw [hg] at h2; exact h2.elim
      | some b =>
        rw [hg] at h2
        rw [guard_wanted hs hg]
        cases b with
        | true =>
          obtain ⟨e, hp, _, hk⟩ := h2
          rw [if_pos rfl]
          refine .inl (pre_sound hΘ hs hp hin fun a' w' hs' => ?_)
          rcases hk with hk | ⟨_, hk⟩
          · exact ih _ _ _ _ hs' hk
          · obtain ⟨s2, hk, hs2⟩ := gh_sim hk hs'
            exact ih _ _ _ _ hs2 hk
        | false =>
          rw [if_neg (by simp)]
          exact ih _ _ _ _ (skip_sim hs hin) h2
theorem aops_sound (hΘ : TabOK P Θ) {K : St → Prop} (hq : ∀ s a w, Sim W M S0 n s a w → K s → Q .normal a w) : ∀ (l : List Oper) (k : Nat) (s : St) (a : Act) (w : World), Sim W M S0 n s a w → AOps P Θ n ops false k l s K → wpList P ops Q l a w
  | [], _, s, a, w, hs, h => hq s a w hs h
  | o :: l, k, s, a, w, hs, h => by
    unfold AOps at h
    obtain ⟨hin, h⟩ := h
    unfold wpList
    cases hg : guardA ops s o with
    | none => rw [hg] at h; exact h.elim
    | some b =>
      rw [hg] at h
      rw [guard_wanted hs hg]
      cases b with
      | true =>
        obtain ⟨e, hp, _, hk⟩ := h
        rw [if_pos rfl]
        refine .inl (pre_sound hΘ hs hp hin fun a' w' hs' => ?_)
        rcases hk with hk | ⟨_, hk⟩
        · exact aops_sound hΘ hq l (k + 1) _ _ _ hs' hk
        · obtain ⟨s2, hk, hs2⟩ := gh_sim hk hs'
          exact aops_sound hΘ hq l (k + 1) _ _ _ hs2 hk
      | false =>
        rw [if_neg (by simp)]
        exact aops_sound hΘ hq l (k + 1) _ _ _ (skip_sim hs hin) h

def toEx : AEx → Exit
  | .normal => .normal
  | .exit id => .exit id
  | .ret => .ret
/-- **THE CODE**: what the machine over data says, the program does. -/
theorem acode_sound (hΘ : TabOK P Θ) (hm : P.follows .mixedOrders = true) : ∀ (c : Code) (QA : AEx → St → Prop) (Q : Exit → Act → World → Prop) (s : St) (a : Act) (w : World), Sim W M S0 n s a w → (∀ e s a w, Sim W M S0 n s a w → QA e s → Q (toEx e) a w) → ACode P Θ n c QA s → c.wp P Q a w := by
  intro c
  induction c with
  | skip => intro QA Q s a w hs hq h; exact wp_skip (hq .normal s a w hs h)
  | label l => intro QA Q s a w hs hq h; exact wp_label (hq .normal s a w hs h)
  | region id ops draw =>
    intro QA Q s a w hs hq h
    obtain ⟨hB, h⟩ := h
    cases draw with
    | false => exact wp_region_list (aops_sound hΘ (fun s a w hs hk => hq .normal s a w hs hk) _ _ _ _ _ hs h)
    | true =>
      have hB := hB rfl
      simp only [Region.lexB, Bool.and_eq_true] at hB
      refine wp_region_any hm ?_
      have hs' : Sim W M S0 n s a { w with drawn := w.drawn + 1 } := by
        obtain ⟨hn, hdf, S, B, V, T, h⟩ := hs
        exact ⟨hn, hdf, S, B, V, T, h.world ((Below.refl _ _).drew)⟩
      have hcl : Closed ops (Array.replicate ops.size false) := fun j o ho hl => by
        have : (Array.replicate ops.size false).getD j false = false := by simp [Array.getD_eq_getD_getElem?, Array.getElem?_replicate]; split <;> rfl
        rw [this] at hl; cases hl
      have := AAny_lex (P := P) (Θ := Θ) (n := n) ops.toList 0 (Array.replicate ops.size false) s hcl (by simp) (by simpa using hB.2) h
      exact aany_sound hΘ (fun s a w hs hk => hq .normal s a w hs hk) _ _ _ _ _ hs' (by simpa using this)
  | seq x y ihx ihy =>
    intro QA Q s a w hs hq h
    rcases h with h | ⟨ι, I, h, hi⟩
    · refine wp_seq (ihx (AEx.then (ACode P Θ n y QA) QA) _ s a w hs (fun e s a w hs he => ?_) h)
      cases e with
      | normal => exact ihy QA Q s a w hs hq he
      | exit id => exact hq (.exit id) s a w hs he
      | ret => exact hq .ret s a w hs he
    · refine wp_seq (ihx (AEx.then (fun s' => ∃ j, s'.leM (I j)) QA) _ s a w hs (fun e s a w hs he => ?_) h)
      cases e with
      | normal => obtain ⟨j, hl⟩ := he; exact ihy QA Q (I j).st a w (le_sim hs hl) hq (hi j)
      | exit id => exact hq (.exit id) s a w hs he
      | ret => exact hq .ret s a w hs he
  | cond c x y ihx ihy =>
    intro QA Q s a w hs hq h
    obtain ⟨b, hc, h⟩ := h
    have hev : a.eval c = .bool b := by
      obtain ⟨_, _, S, B, V, _, h1⟩ := hs
      exact ev_int h1 hc
    cases b with
    | true => exact wp_cond_true hev (ihx QA Q s a w hs hq h)
    | false => exact wp_cond_false hev (ihy QA Q s a w hs hq h)
  | block id c ih =>
    intro QA Q s a w hs hq h
    refine wp_block (ih (AEx.inBlock id QA) _ s a w hs (fun e s a w hs he => ?_) h)
    cases e with
    | normal => exact hq .normal s a w hs he
    | exit j =>
      show Exit.inBlock id Q (.exit j) a w
      simp only [Exit.inBlock]
      by_cases hj : j = id
      · subst hj
        rw [if_pos rfl]
        refine hq .normal s a w hs ?_
        have : (bif Nat.beq j j then QA .normal s else QA (.exit j) s) := he
        simpa using this
      · rw [if_neg hj]
        refine hq (.exit j) s a w hs ?_
        have : (bif Nat.beq j id then QA .normal s else QA (.exit j) s) := he
        rwa [nbne hj] at this
    | ret => exact hq .ret s a w hs he
  | loop c ih =>
    intro QA Q s a w hs hq h
    obtain ⟨ι, I, μ, ⟨i0, h0⟩, hround⟩ := h
    refine (?_ : ∀ b k cs, _)
    have key : ∀ m i a w, μ i = m → Sim W M S0 n (I i).st a w → ∀ (b : Frame) (k : List Item) (cs : List Frame),
        ∃ e a' w', Q e a' w' ∧ Arrives P (lone (b.at a (.code c :: .inLoop c :: k)) cs w) b k cs e a' w' := by
      intro m
      induction m using Nat.strongRecOn with
      | _ m ihm =>
        intro i a w hmi hsi b k cs
        have hb := ih (AEx.then (fun s' => ∃ j, s'.leM (I j) ∧ μ j < μ i) QA) (Exit.then (fun a' w' => ∃ j, Sim W M S0 n (I j).st a' w' ∧ μ j < μ i) Q) (I i).st a w hsi (fun e s a w hs he => by
          cases e with
          | normal => obtain ⟨j, hl, hlt⟩ := he; exact ⟨j, le_sim hs hl, hlt⟩
          | exit id => exact hq (.exit id) s a w hs he
          | ret => exact hq .ret s a w hs he) (hround i)
        obtain ⟨e, a₁, w₁, hq1, harr⟩ := hb b (.inLoop c :: k) cs
        cases e with
        | normal =>
          obtain ⟨j, hsj, hlt⟩ := hq1
          obtain ⟨e₂, a₂, w₂, hq₂, harr₂⟩ := ihm (μ j) (hmi ▸ hlt) j a₁ w₁ rfl hsj b k cs
          exact ⟨e₂, a₂, w₂, hq₂, .of_steps (Steps.trans harr (.one step_inLoop)) harr₂⟩
        | exit id => exact ⟨_, a₁, w₁, hq1, .pass (x := .inLoop c) rfl (fun _ _ => .inl (by simp)) harr⟩
        | goto l => exact ⟨_, a₁, w₁, hq1, .pass (x := .inLoop c) rfl (fun _ _ => .inl (by simp)) harr⟩
        | ret => exact ⟨_, a₁, w₁, hq1, .pass (x := .inLoop c) rfl (fun _ _ => .inl (by simp)) harr⟩
        | panic ch => exact ⟨_, a₁, w₁, hq1, .pass (x := .inLoop c) rfl (fun _ _ => .inl (by simp)) harr⟩
        | outgrown => exact ⟨_, a₁, w₁, hq1, .pass (x := .inLoop c) rfl (fun _ _ => .inl (by simp)) harr⟩
    intro b k cs
    obtain ⟨e, a', w', hq', harr⟩ := key _ i0 a w rfl (le_sim hs h0) b k cs
    exact ⟨e, a', w', hq', .of_steps (.one step_loop) harr⟩
  | exit id => intro QA Q s a w hs hq h; exact wp_exit (hq (.exit id) s a w hs h)
  | ret => intro QA Q s a w hs hq h; exact wp_ret (hq .ret s a w hs h)
  | rangeFunc _ _ _ _ => intro QA Q s a w hs hq h; exact h.elim
  | scope _ => intro QA Q s a w hs hq h; exact h.elim
  | goto _ => intro QA Q s a w hs hq h; exact h.elim
  | refuse _ => intro QA Q s a w hs hq h; exact h.elim
end
end Go.Proofs.Ytmafbodblpgcjaa.AM
