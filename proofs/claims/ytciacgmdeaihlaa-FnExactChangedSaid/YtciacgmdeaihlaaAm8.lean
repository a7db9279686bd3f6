/- The machine over data: append, len, calls of functions. -/
import Derived.Test.YtciacgmdeaihlaaAm7
namespace Go.Proofs.Ytciacgmdeaihlaa.AM
open Go Go.RowKit

section
variable {P : Program} {Θ : Tab} {W : World} {M : Option Value} {S0 : Nat → Prop} {n : Nat} {s : St} {a : Act} {w : World} {S : Nat → Prop} {B : Nat → Nat} {V : Nat → Value} {tmps : Array Value}
variable {K : Act → World → Prop} {Q : Exit → Act → World → Prop}

theorem run_append_zero {t ty e : TypeId} {i : TypeInfo} (ht : P.underlying t = some (.slice e)) (hi : P.info? e = some i) {base sz m : Nat} {v : Value} {xs : List Value} (hown : w.ownsRow base e sz v m xs) (A : Option Addr) (c : Nat) :
    (Builtin.append_ #[t, t] ty #[v, .slice A 0 c]).run P w = .ok v w := by
  have hf : (Builtin.firstCells i.size 0 (.slice A 0 c)).run P w = .ok #[] w := by
    cases A with
    | none => simp [Builtin.firstCells]
    | some a => exact run_firstCells_some (P := P) w i.size 0 a 0 c [] (by simp) (by simp)
  rcases hown.2 with ⟨rfl, rfl⟩ | ⟨g, cap, cur, rfl, _, _, hc, _⟩
  · simp [Builtin.append_, run_underlying ht, sizeOf, typeInfo, hi, Builtin.lenOf, hf]
  · simp [Builtin.append_, run_underlying ht, sizeOf, typeInfo, hi, Builtin.lenOf, hf, hc, storeCells]

/-- append to a row that is owned, over data -/
theorem append_sim (h : SimW W M S0 s tmps w S B V) {t ty el : TypeId} {sz b : Nat} {z : AV} (hT : TIok P t (.slice el sz b z)) {l : Nat} {ob : OB} (hl0 : l ≠ 0) (ho : s.hp l = some ob) (he : ob.e = el) (hz : ob.sz = sz) {ys : List AV} {A : Option Addr} {c : Nat} (hya : ∀ x ∈ ys, asz x = sz)
    (hy : ys = [] ∨ ∃ ad us, A = some ad ∧ RL S w ys us ∧ ∀ j u, us[j]? = some u → w.cell? (ad.add j) = some u) (hb : (ob.xs.length + ys.length) * b ≤ 140737488355328) (hm : ob.xs.length + ys.length ≤ maxLen) :
    ∃ v' w1 B' V', (Builtin.append_ #[t, t] ty #[V l, .slice A ys.length c]).run P w = .ok v' w1 ∧ SimW W M S0 ((s.kill l).set l (some ⟨el, sz, ob.xs ++ ys⟩)) tmps w1 S B' V' ∧ V' l = v' := by
  obtain ⟨hu, _, i, zv, hi, hzv, hs, hby, h0, hasz, hzr⟩ := hT
  have hro := h.hp l ob ho
  obtain ⟨cs, r1, r2, r3, r4, r5⟩ := hro
  have hkill : ∀ t, AV.names l ((s.kill l).sl t) = false := fun t => by
    show AV.names l (bif (s.sl t).names l then .any else s.sl t) = false
    cases hn : (s.sl t).names l with
    | true => rfl
    | false => simpa using hn
  by_cases hys : ys = []
  · subst hys
    have hrun := run_append_zero (P := P) (w := w) (ty := ty) hu hi (he ▸ r4) A c
    refine ⟨V l, w, B, V, hrun, ⟨h.below, h.s0, h.slt, fun t => ?_, fun l' ob' ho' => ?_, fun l1 l2 o1 o2 g h1 h2 => ?_, fun l1 o1 g h1 => ?_, h.pin⟩, rfl⟩
    · have hk := hkill t
      show RV S w (fun j => bif Nat.beq j l then some ⟨el, sz, ob.xs ++ []⟩ else s.hp j) B V ((s.kill l).sl t) _
      have ht := h.sl t
      have hcar : RV S w s.hp B V ((s.kill l).sl t) (tmps.getD t undef) := by
        show RV S w s.hp B V (bif (s.sl t).names l then .any else s.sl t) _
        cases (s.sl t).names l with
        | true => simp only [cond_true]; unfold RV; trivial
        | false => exact ht
      refine RV.carry (fun _ h => h) (fun _ _ => rfl) _ _ (fun l' ob' hn ho' => ⟨ob', ?_, rfl, rfl, rfl⟩) hcar
      have hne : l' ≠ l := fun e => by rw [e, hk] at hn; cases hn
      simp [nbne hne, ho']
    · by_cases e : l' = l
      · subst e
        have : ob' = ⟨el, sz, ob.xs ++ []⟩ := by simpa [St.set] using ho'.symm
        subst this
        simp only [List.append_nil]
        exact ⟨cs, r1, hz ▸ r2, hz ▸ r3, by rw [← he, ← hz]; exact r4, r5⟩
      · exact h.hp l' ob' (by simpa [St.set, St.kill, nbne e] using ho')
    · have q1 : ∃ o, s.hp l1 = some o := by
        by_cases e : l1 = l
        · subst e; exact ⟨ob, ho⟩
        · exact ⟨o1, by simpa [St.set, St.kill, nbne e] using h1⟩
      have q2 : ∃ o, s.hp l2 = some o := by
        by_cases e : l2 = l
        · subst e; exact ⟨ob, ho⟩
        · exact ⟨o2, by simpa [St.set, St.kill, nbne e] using h2⟩
      obtain ⟨p1, q1⟩ := q1
      obtain ⟨p2, q2⟩ := q2
      exact h.dist l1 l2 p1 p2 g q1 q2
    · by_cases e : l1 = l
      · subst e; exact h.mine l1 ob g ho
      · exact h.mine l1 o1 g (by simpa [St.set, St.kill, nbne e] using h1)
  · rcases hy with hy | ⟨ad, us, rfl, hr, hc⟩
    · exact absurd hy hys
    have hlen : 0 < ys.length := List.length_pos_iff.2 hys
    have hus := RL.size _ _ hr
    rw [aszs_const hya] at hus
    have hzs : zv.cells.size = sz := by rw [← Array.length_toList, RA.size _ _ (hzr w), hasz]
    obtain ⟨g, cap, w1, hrun, hown, hgr, hat, hlt⟩ := run_append_lies (P := P) w t ty 0 el i zv sz b hu hi hzv hs hby hzs h0 (V l) ob.xs.length cs (by rw [← he, ← hz]; exact r4) ad ys.length c us hus hc (RL.one _ _ hr) hlen hm hb (Nat.zero_le _) w.heap.size rfl
    have hng : ¬ S g := by
      rcases hat with hat | hat
      · exact (r5 g hat).2
      · exact fun hs => absurd (h.slt g hs).1 (by omega)
    have hw : ∀ b, S b → w1.heap[b]? = w.heap[b]? := fun b hs => hgr.block b (h.slt b hs).1 (fun e => (r5 b e.symm).2 hs)
    have hoth : ∀ l' ob' g', l' ≠ l → s.hp l' = some ob' → (V l').ownBlock = some g' → w1.heap[g']? = w.heap[g']? ∧ g' ≠ g := fun l' ob' g' hne ho' hg' => by
      have hlt' := ((h.hp l' ob' ho').lt g' hg').2
      refine ⟨hgr.block g' hlt' (fun e => hne (h.dist l' l ob' ob g' ho' ho hg' e.symm)), fun e => ?_⟩
      subst e
      rcases hat with hat | hat
      · exact hne (h.dist l' l ob' ob g' ho' ho hg' hat)
      · omega
    refine ⟨_, w1, upd B l g, upd V l (.slice (some ⟨g, 0, none⟩) (ob.xs.length + ys.length) cap), hrun, ⟨grown_trans h.below hgr (fun g' e hlt => (h.mine l ob g' ho e).resolve_left (by omega)), h.s0, fun b hs => ⟨Nat.lt_of_lt_of_le (h.slt b hs).1 hgr.size, (h.slt b hs).2⟩, fun t => ?_, fun l' ob' ho' => ?_, fun l1 l2 o1 o2 g' h1 h2 e1 e2 => ?_, fun l1 o1 g' h1 e1 => ?_, fun u hu => (upd_ne (Ne.symm hl0)).trans (h.pin u hu)⟩, upd_same⟩
    · have hk := hkill t
      have hcar : RV S w s.hp B V ((s.kill l).sl t) (tmps.getD t undef) := by
        show RV S w s.hp B V (bif (s.sl t).names l then .any else s.sl t) _
        cases (s.sl t).names l with
        | true => simp only [cond_true]; unfold RV; trivial
        | false => exact h.sl t
      refine RV.carry (fun _ h => h) hw _ _ (fun l' ob' hn ho' => ?_) hcar
      have hne : l' ≠ l := fun e => by rw [e] at hn; exact absurd (hk.symm.trans hn) (by simp)
      exact ⟨ob', by simp [St.set, St.kill, nbne hne, ho'], rfl, upd_ne hne, upd_ne hne⟩
    · by_cases e : l' = l
      · subst e
        have : ob' = ⟨el, sz, ob.xs ++ ys⟩ := by simpa [St.set] using ho'.symm
        subst this
        rw [upd_same, upd_same]
        refine ⟨cs ++ us, RL.mono (fun _ h => h) hw _ _ (RL.app r1 hr), fun x hx => ?_, h0, by simpa using hown, fun g' hg' => ?_⟩
        · rcases List.mem_append.1 hx with hx | hx
          · rw [← hz]; exact r2 x hx
          · exact hya x hx
        · simp [Value.ownBlock] at hg'; subst hg'; exact ⟨rfl, hng⟩
      · have ho2 : s.hp l' = some ob' := by simpa [St.set, St.kill, nbne e] using ho'
        rw [upd_ne e, upd_ne e]
        exact (h.hp l' ob' ho2).carry (fun _ h => h) hw (fun g' hg' => ⟨(hoth l' ob' g' e ho2 hg').1, id⟩)
    · by_cases e : l1 = l
      · by_cases e' : l2 = l
        · rw [e, e']
        · subst e
          rw [upd_same] at e1; rw [upd_ne e'] at e2
          have ho2 : s.hp l2 = some o2 := by simpa [St.set, St.kill, nbne e'] using h2
          simp [Value.ownBlock] at e1
          exact absurd e1.symm (hoth l2 o2 g' e' ho2 e2).2
      · have ho1 : s.hp l1 = some o1 := by simpa [St.set, St.kill, nbne e] using h1
        rw [upd_ne e] at e1
        by_cases e' : l2 = l
        · subst e'
          rw [upd_same] at e2
          simp [Value.ownBlock] at e2
          exact absurd e2.symm (hoth l1 o1 g' e ho1 e1).2
        · rw [upd_ne e'] at e2
          exact h.dist l1 l2 o1 o2 g' ho1 (by simpa [St.set, St.kill, nbne e'] using h2) e1 e2
    · by_cases e : l1 = l
      · subst e
        rw [upd_same] at e1
        simp [Value.ownBlock] at e1
        subst e1
        rcases hat with hat | hat
        · exact h.mine l1 ob g ho hat
        · exact .inl (by have := h.below.size; omega)
      · rw [upd_ne e] at e1
        exact h.mine l1 o1 g' (by simpa [St.set, St.kill, nbne e] using h1) e1

theorem pre_append (hΘ : TabOK P Θ) (hn : a.tmps.size = n) (hdf : a.defers = []) (h : SimW W M S0 s a.tmps w S B V) {dst : Option Tmp} {ags : Array Operand} {ts : Array TypeId} {ty : TypeId} {pos : String} {after : Array Edge} {guard : Option (Nat × Bool)} {e : Eff}
    (hp : Pre P Θ ⟨dst, .call ⟨.builtin .append, ags, ts⟩, ty, pos, after, guard⟩ s e) (hin : inN n dst = true) (hK : ∀ a' w', Sim W M S0 n (s.app dst e) a' w' → K a' w') : (⟨dst, .call ⟨.builtin .append, ags, ts⟩, ty, pos, after, guard⟩ : Oper).wp P a w K Q := by
  simp only [Pre] at hp
  obtain ⟨x, y, t, el, sz, b, z, l, ob, ys, rfl, rfl, ht, hx, ho, hl0, he, hz, hy, hb, hm, rfl⟩ := hp
  have hT := hΘ t
  rw [ht] at hT
  have hvx := ev_tmp h hx (fun c => by simp)
  unfold RV at hvx
  obtain ⟨_, ex⟩ := hvx
  have hsrc : ∃ A c, a.eval y = .slice A ys.length c ∧ (∀ x ∈ ys, asz x = sz) ∧ (ys = [] ∨ ∃ ad us, A = some ad ∧ RL S w ys us ∧ ∀ j u, us[j]? = some u → w.cell? (ad.add j) = some u) := by
    rcases hy with hy | ⟨l', ob', hy, hne, ho', hz', rfl⟩
    · have hv := ev_tmp h hy (fun c => by simp)
      unfold RV at hv
      unfold RA at hv
      obtain ⟨A, c, e, _, _, h3, _, h4⟩ := hv
      simp only [List.cons.injEq, and_true] at e
      refine ⟨A, c, e, h3, ?_⟩
      rcases h4 with h4 | ⟨b', off, us, rfl, _, hr, hc⟩
      · exact .inl h4
      · exact .inr ⟨_, us, rfl, hr, fun j u hu => by rw [add_off]; exact hc j u hu⟩
    · have hv := ev_tmp h hy (fun c => by simp)
      unfold RV at hv
      obtain ⟨_, e⟩ := hv
      have hro := h.hp l' ob' ho'
      by_cases hne' : ob'.xs = []
      · obtain ⟨cs, _, r2, _, r4, _⟩ := hro
        rcases r4.2 with ⟨hv0, hl0⟩ | ⟨g, cap, cur, hv0, _⟩
        · exact ⟨none, 0, by rw [e, hv0, hl0], hz' ▸ r2, .inl hne'⟩
        · exact ⟨_, cap, by rw [e, hv0], hz' ▸ r2, .inl hne'⟩
      · obtain ⟨cs, cap, cur, hr, ha, hV, _, _, hheap, _, _, _, hta⟩ := hro.block hne'
        refine ⟨_, cap, by rw [e, hV], hz' ▸ ha, .inr ⟨_, cs, rfl, hr, fun j u hu => ?_⟩⟩
        rw [add_off, cell_of_row w (B l') (0 + j) cur ob'.e (0, 0) hheap]
        rw [← hta, List.getElem?_take] at hu
        split at hu
        · simpa using hu
        · cases hu
  obtain ⟨A, c, ey, hya, hyr⟩ := hsrc
  obtain ⟨v', w1, B', V', hrun, hsim, hv'⟩ := append_sim (P := P) (ty := ty) h hT hl0 ho he hz (c := c) hya hyr hb hm
  refine wp_value (v := v') (w1 := w1) ?_ (hK _ _ ?_)
  · simp only [execOp, resolve, invoke, builtin, Sem.run_bind, Sem.run_pure, Result.andThen_ok, List.map_toArray, List.map_cons, List.map_nil, ex, ey, hrun]
  · refine Sim.put hn hdf hsim dst ?_ hin
    unfold RV
    exact ⟨⟨_, set_hp⟩, hv'.symm⟩

theorem pre_len (hΘ : TabOK P Θ) (hn : a.tmps.size = n) (hdf : a.defers = []) (h : SimW W M S0 s a.tmps w S B V) {dst : Option Tmp} {ags : Array Operand} {ts : Array TypeId} {ty : TypeId} {pos : String} {after : Array Edge} {guard : Option (Nat × Bool)} {e : Eff}
    (hp : Pre P Θ ⟨dst, .call ⟨.builtin .len, ags, ts⟩, ty, pos, after, guard⟩ s e) (hin : inN n dst = true) (hK : ∀ a' w', Sim W M S0 n (s.app dst e) a' w' → K a' w') : (⟨dst, .call ⟨.builtin .len, ags, ts⟩, ty, pos, after, guard⟩ : Oper).wp P a w K Q := by
  simp only [Pre] at hp
  obtain ⟨x, t, m, rfl, rfl, hl, hok, rfl⟩ := hp
  have hT := hΘ t
  have hrun : (Builtin.len_ #[t] ty #[a.eval x]).run P w = .ok (.int .i64 (m : Int)) w := by
    cases hx : s.ev x with
    | v c =>
      rw [hx] at hl hok
      rw [ev_int h hx]
      cases c <;> simp [lenOK] at hok
      simp [lenA] at hl
      rw [hok] at hT
      simp [Builtin.len_, run_underlying hT.1, goInt, hl]
    | lst sz xs =>
      rw [hx] at hl hok
      have hv := ev_tmp h hx (fun c => by simp)
      unfold RV at hv
      unfold RA at hv
      obtain ⟨A, c, e, _⟩ := hv
      simp only [List.cons.injEq, and_true] at e
      obtain ⟨el, sz', b, z, ht⟩ := hok
      rw [ht] at hT
      simp [lenA] at hl
      simp [Builtin.len_, run_underlying hT.1, goInt, e, hl]
    | own l =>
      rw [hx] at hl hok
      have hv := ev_tmp h hx (fun c => by simp)
      unfold RV at hv
      obtain ⟨⟨ob, ho⟩, e⟩ := hv
      obtain ⟨el, sz', b, z, ht⟩ := hok
      rw [ht] at hT
      simp [lenA, ho] at hl
      obtain ⟨cs, _, _, _, r4, _⟩ := h.hp l ob ho
      rcases r4.2 with ⟨hv0, hl0⟩ | ⟨g, cap, cur, hv0, _⟩
      · simp [Builtin.len_, run_underlying hT.1, goInt, e, hv0]; omega
      · simp [Builtin.len_, run_underlying hT.1, goInt, e, hv0, hl]
    | _ => rw [hx] at hl; simp [lenA] at hl
  refine pure_step (x := .v (.int .i64 (m : Int))) (v := .int .i64 (m : Int)) hn hdf h ?_ (one_list rfl) hin hK
  simp only [execOp, resolve, invoke, builtin, Sem.run_bind, Sem.run_pure, Result.andThen_ok, List.map_toArray, List.map_cons, List.map_nil, hrun]
end
end Go.Proofs.Ytciacgmdeaihlaa.AM
