/- The machine over data, second make (N8): loads, stores, addresses. -/
import Derived.Test.YtmafbodblpgcjaaN7
namespace Go.Proofs.Ytmafbodblpgcjaa.AM
open Go Go.RowKit
set_option linter.unusedVariables false
set_option linter.unusedSimpArgs false

theorem setM_asz {p : List Nat} : ∀ {q z y' : AV} {c0 c : Nat}, getP q p c0 = some (z, c) → asz y' = asz z → asz (setM q p y') = asz q := by
  induction p with
  | nil => intro q z y' c0 c hg h; unfold getP at hg; cases hg; exact h
  | cons i p ih =>
    intro q z y' c0 c hg h
    cases q with
    | agg xs =>
      simp only [getP] at hg
      cases hq : xs[i]? with
      | none => rw [hq] at hg; cases hg
      | some x => rw [hq] at hg; simp only [setM, hq, asz]; exact aszs_set i hq (ih hg h)
    | mix xs =>
      simp only [getP] at hg
      cases hq : xs[i]? with
      | none => rw [hq] at hg; cases hg
      | some x => rw [hq] at hg; simp only [setM, hq, asz]; exact aszs_set i hq (ih hg h)
    | _ => simp [getP] at hg
section
variable {P : Program} {Θ : Tab} {W : World} {M : Hand} {S0 : Nat → Prop} {n : Nat} {s : St} {a : Act} {w : World} {S : Nat → Prop} {B : Nat → Nat} {V : Nat → Value} {T : Nat → Nat → Prop} {tmps : Array Value}
variable {K : Act → World → Prop} {Q : Exit → Act → World → Prop}

theorem take_splice2 {α : Type} (L vs : List α) (i m : Nat) (h : i + vs.length ≤ m) (hm : m ≤ L.length) : (L.take i ++ vs ++ L.drop (i + vs.length)).take m = (L.take m).take i ++ vs ++ (L.take m).drop (i + vs.length) := by
  rw [List.take_append, List.drop_take, List.take_take, Nat.min_eq_left (by omega)]
  have hl : (L.take i ++ vs).length = i + vs.length := by simp; omega
  rw [hl, List.take_of_length_le (by omega)]
/-- a store into a row that is owned -/
theorem store_sim (h : SimW W M S0 s tmps w S B V T) {l : Nat} {ob ob' : OB} (ho : s.hp l = some ob) {q0 : Nat} {vs : List Value} (hsz : ob'.sz = ob.sz) (hlen : ob'.xs.length = ob.xs.length) (hty : ∀ t', ob'.e.typ = some t' → ob.e.typ = some t') (hne : ob.xs ≠ []) (ha' : ∀ x ∈ ob'.xs, asz x = ob.sz) (h1c : ∀ u ∈ vs, u.oneCell' = true)
    (hk : ∀ cs, cs.length = ob.xs.length * ob.sz → RK S w s.hp B V ob.sz ob.xs (T l) cs ob.e → q0 + vs.length ≤ cs.length ∧ ∃ T', (∀ g, T' g → T l g) ∧ RK S w s.hp B V ob.sz ob'.xs T' (cs.take q0 ++ vs ++ cs.drop (q0 + vs.length)) ob'.e)
    {t : TypeId} {ti : TypeInfo} {val : Value} (hv : val.cells.toList = vs) (hti : P.info? t = some ti) (hts : ti.size = vs.length) :
    ∃ w1 T', (Instr.storeAt t (.pointer (some ⟨B l, q0, none⟩)) val).run P w = .ok () w1 ∧ SimW W M S0 (s.set l (some ob')) tmps w1 S B V (upd T l T') := by
  have hro := h.rows.ro l ob ho
  obtain ⟨tt, cs, cap, cur, h0, hr, ha, hpos, hV, hheap, hc, hm, hs, ht⟩ := hro.block hne
  have hcl := hr.size ha
  obtain ⟨hle, T', hT', hr'⟩ := hk cs hcl hr
  have hcurlen : cs.length ≤ cur.size := by rw [← ht]; simp; omega
  have hst := run_storeCells_at P (B l) q0 tt vs 0 cur w hheap (by omega) h1c
  simp only [Nat.add_zero] at hst
  have hvs : val.cells.size = ti.size := by rw [← Array.length_toList, hv, hts]
  have hVl : (V l).ownBlock = some (B l) := by rw [hV]; rfl
  have hnT : ¬ T l (B l) := h.rows.nd l ob _ ho hVl
  have hnS : ¬ S (B l) := (h.rows.me l ob _ ho (.inl hVl)).1
  refine ⟨w.setRow (B l) (cur.toList.take q0 ++ vs ++ cur.toList.drop (q0 + vs.length)).toArray, T', ?_, ?_⟩
  · simp [Instr.storeAt, Instr.sureAddr, storeVar, sizeOf, typeInfo, hti, hvs, hv, hst]
  · have hnew := setRow_heap w (B l) cur (cur.toList.take q0 ++ vs ++ cur.toList.drop (q0 + vs.length)).toArray tt (0, 0) hheap
    have hoth : ∀ b, b ≠ B l → (w.setRow (B l) (cur.toList.take q0 ++ vs ++ cur.toList.drop (q0 + vs.length)).toArray).heap[b]? = w.heap[b]? := fun b hb => setRow_other w (B l) b _ (fun e => hb e)
    have hgr : Grown w (w.setRow (B l) (cur.toList.take q0 ++ vs ++ cur.toList.drop (q0 + vs.length)).toArray) (Blk V T l) :=
      ⟨rfl, rfl, rfl, by simp [World.setRow], fun k _ hk => hoth k (fun e => hk (by rw [e]; exact .inl hVl))⟩
    generalize w.setRow (B l) (cur.toList.take q0 ++ vs ++ cur.toList.drop (q0 + vs.length)).toArray = w1 at *
    have hsame : ∀ j, Same s.hp (s.set l (some ob')).hp B B V V j := fun j o hjo => by
      by_cases hj : j = l
      · subst hj; rw [ho] at hjo; cases hjo; exact ⟨ob', set_hp, hsz, rfl, rfl⟩
      · exact ⟨o, by rw [set_hpn hj]; exact hjo, rfl, rfl, rfl⟩
    refine h.inpl ho hsz hgr ⟨tt, cs.take q0 ++ vs ++ cs.drop (q0 + vs.length), fun t' e => h0 t' (hty t' e), ?_, by rw [hsz]; exact ha', by rw [hsz]; exact hpos, ?_, fun g hg => by rw [hVl] at hg; cases hg; rfl⟩ hT'
    · rw [hsz]
      exact hr'.carry (fun _ h => h) (fun b hs => hoth b (fun e => hnS (e ▸ hs))) (fun j _ => hsame j) (fun g hg => hoth g (fun e => hnT (e ▸ hT' g hg)))
    · rw [hsz, hlen]
      refine ⟨?_, .inr ⟨B l, cap, _, by rw [hV], Nat.zero_le _, hnew, hc, hm, ?_, ?_⟩⟩
      · simp only [List.length_append, List.length_take, List.length_drop]; omega
      · simp only [List.size_toArray, List.length_append, List.length_take, List.length_drop, Array.length_toList]; omega
      · rw [← ht]
        exact take_splice2 _ _ _ _ (by omega) (by simp; omega)
theorem set_len {α : Type} {l : List α} {i : Nat} {x : α} : (l.set i x).length = l.length := by simp
theorem all_set {xs : List AV} {i : Nat} {y q : AV} {sz : Nat} (ha : ∀ x ∈ xs, asz x = sz) (hq : xs[i]? = some q) (hy : asz y = asz q) : ∀ x ∈ xs.set i y, asz x = sz := fun x hx => by
  rcases List.mem_or_eq_of_mem_set hx with hx | hx
  · exact ha x hx
  · subst hx; rw [hy]; exact ha q (List.mem_of_getElem? hq)
theorem frz_hp {s : St} {d : Nat} {ob : OB} (ls : List Nat) : ls.contains d = false → s.hp d = some ob → (ob.e.shut = true → (frzL ls s).hp d = some ob) → ob.e.shut = true → (frzL ls s).hp d = some ob := fun _ _ h k => h k
theorem openE_ne {e e' : ET} {xs : List AV} {i : Nat} (h : openE e xs i = some e') (hs : e.shut = true ∨ i < xs.length) : xs ≠ [] := by
  intro hx
  subst hx
  cases e <;> simp [openE] at h
  rcases hs with hs | hs
  · cases hs
  · simp at hs
theorem RK.len {hp : Nat → Option OB} {sz : Nat} {xs : List AV} {T : Nat → Prop} {cs : List Value} {t : Option Nat} {i : Nat} {y : AV} (h : RK S w hp B V sz xs T cs (.o t i y)) : i < xs.length := h.1

theorem pre_store (hΘ : TabOK P Θ) (hn : a.tmps.size = n) (hdf : a.defers = []) (h : SimW W M S0 s a.tmps w S B V T) {dst : Option Tmp} {t : TypeId} {x y : Operand} {ty : TypeId} {pos : String} {after : Array Edge} {guard : Option (Nat × Bool)} {e : Eff}
    (hp : Pre P Θ ⟨dst, .store t x y, ty, pos, after, guard⟩ s e) (hin : inN n dst = true) (hK : ∀ a' w', Sim W M S0 n (s.app dst e) a' w' → K a' w') : (⟨dst, .store t x y, ty, pos, after, guard⟩ : Oper).wp P a w K Q := by
  simp only [Pre] at hp
  obtain ⟨hc, hk, l, i, p, c, ob, hx, ho, hp⟩ := hp
  obtain ⟨i0, hi0, hs0, _⟩ := ti_info (hΘ t) hk
  have hpx := ev_tmp h hx (fun c => by simp)
  unfold RV at hpx
  obtain ⟨ob', ho', hpx⟩ := hpx
  rw [ho] at ho'; cases ho'
  have hrv := ev_rv h y hc
  have hro := h.rows.ro l ob ho
  have fin : ∀ {s1 : St} {S1 : Nat → Prop} {T1 : Nat → Nat → Prop} {ob1 : OB} {w1 : World}, (Instr.storeAt t (.pointer (some ⟨B l, i * ob.sz + c, none⟩)) (a.eval y)).run P w = .ok () w1 → SimW W M S0 (s1.set l (some ob1)) a.tmps w1 S1 B V T1 → e.val = .any → s.app dst e = (s1.set l (some ob1)).put dst .any → (⟨dst, .store t x y, ty, pos, after, guard⟩ : Oper).wp P a w K Q := fun {s1 S1 T1 ob1 w1} hrun hsim hv he => by
    refine wp_skipped (w1 := w1) ?_ (hK _ _ ?_)
    · simp only [execOp, hpx, Sem.run_bind, hrun, Result.andThen_ok, Sem.run_pure]
    · rw [he]; exact Sim.put hn hdf hsim dst (by unfold RV; trivial) hin
  rcases hp with ⟨t0, q, z, hkd, hq, hg, hsz, hdz, hd, hnl, hall, rfl⟩ | ⟨t', q, z, y', hop, hg, hsz, hy, hyz, rfl⟩ | ⟨q, z, y', hdp, hq, hg, hsz, rfl, hyn, hyz, rfl⟩ | ⟨t0, q, y', he, hxs, rfl, rfl, rfl, hsz, hy, hyz, rfl⟩
  · -- what is stored may only be read
    have hne : ob.xs ≠ [] := fun e => by rw [e] at hq; simp at hq
    have hsh : ob.e.shut = true := by rcases hkd with e | e <;> rw [e] <;> rfl
    obtain ⟨S', m, h', r, f, g⟩ := frzL_sim (ownsA (s.ev y)) hall h
    have hra := (dat_rv (hp' := s.hp) (B' := B) (V' := V) h m (fun l hl ob ho hs => r l hl ob ho hs) hd hrv).2
    have hl : l ∉ ownsA (s.ev y) := fun hm => by simp at hnl; exact hnl hm
    have ho2 := g l ob hl ho hsh
    obtain ⟨tt, cs0, _, _, h0, _, ha, _⟩ := hro.block hne
    have hqs : asz (setP q p (s.dat (s.ev y))) = asz q := by
      have : ∀ (p : List Nat) (q : AV) (c0 c : Nat), getP q p c0 = some (z, c) → (∀ xs, q ≠ .mix xs) → True := fun _ _ _ _ _ _ => trivial
      obtain ⟨tt, cs, _, _, _, hr, ha, _⟩ := (h'.rows.ro l ob ho2).block hne
      have hr' : RL S' w ob.xs cs := by
        rcases hkd with e | e
        · rw [e] at hr; exact hr
        · rw [e] at hr; exact RDL.toRL _ _ _ (fun g hg => (hr.1 g hg).elim) hr.2
      obtain ⟨qs, k1, _⟩ := RL.at i hr' hq
      exact (setP_at p q qs 0 c z _ _ k1 hg hra hdz).2
    obtain ⟨w1, T', hrun, hsim⟩ := store_sim (P := P) h' ho2 (ob' := ⟨.s t0, ob.sz, ob.xs.set i (setP q p (s.dat (s.ev y)))⟩) (q0 := i * ob.sz + c) (vs := (a.eval y).cells.toList) rfl set_len (fun t' e => by cases e; rcases hkd with e | e <;> rw [e] <;> rfl) hne (all_set ha hq hqs) (RA.one _ _ hra) (fun cs hcl hr => by
      have hr' : RL S' w ob.xs cs := by
        rcases hkd with e | e
        · rw [e] at hr; exact hr
        · rw [e] at hr; exact RDL.toRL _ _ _ (fun g hg => (hr.1 g hg).elim) hr.2
      obtain ⟨qs, k1, k2, k3, k4⟩ := RL.at i hr' hq
      have hpre : aszs (ob.xs.take i) = i * ob.sz := by rw [aszs_const (fun x hx' => ha x (List.mem_of_mem_take hx')), List.length_take, Nat.min_eq_left (by have := (List.getElem?_eq_some_iff.1 hq).1; omega)]
      obtain ⟨ws, m1, m2, m3, _⟩ := getP_at p q qs 0 c z k1 hg
      have e2 := RA.size _ _ m2
      have e3 := RA.size _ _ hra
      obtain ⟨s1, s2⟩ := setP_at p q qs 0 c z _ _ k1 hg hra hdz
      simp only [Nat.sub_zero] at s1 m3
      have hset := RL.set i hr' hq s1 s2
      refine ⟨by omega, fun _ => False, fun g hg => hg.elim, ?_⟩
      have hmid := take_splice cs (a.eval y).cells.toList (i * ob.sz) c qs.length (by omega)
      have hqq : qs = (cs.drop (i * ob.sz)).take qs.length := by rw [← hpre]; exact k3.symm
      rw [hpre] at hset
      have hle : (qs.take c ++ (a.eval y).cells.toList ++ qs.drop (c + (a.eval y).cells.toList.length)).length = qs.length := by
        simp only [List.length_append, List.length_take, List.length_drop]; omega
      rw [hle] at hset
      obtain ⟨L, hL⟩ : ∃ L, L = qs.length := ⟨_, rfl⟩
      rw [← hL] at hset hqq hmid
      rw [hqq, hmid] at hset
      exact hset) rfl hi0 (by rw [hs0, ← hsz, ← hdz]; exact (RA.size _ _ hra).symm)
    exact fin hrun hsim rfl (frzT_eq)
  · -- labels stored into an open row
    have hro1 := hrv.toO h.oneV hy
    have hsz1 := RO1.size _ _ _ hro1
    have hne : ob.xs ≠ [] := by
      rcases Nat.eq_zero_or_pos ob.xs.length with e | e
      · intro _
        obtain ⟨tt, cs, h0, hr, ha, hpos, hown, _⟩ := hro
        obtain ⟨_, _, hr'⟩ := RK.opn ha hop hr
        have := hr'.len; omega
      · exact fun e' => by rw [e'] at e; simp at e
    obtain ⟨tt, cs0, _, _, h0, _, ha, _⟩ := hro.block hne
    obtain ⟨w1, T', hrun, hsim⟩ := store_sim (P := P) h ho (ob' := ⟨.o t' i (setM q p y'), ob.sz, ob.xs⟩) (q0 := i * ob.sz + c) (vs := (a.eval y).cells.toList) rfl rfl (fun t2 e => by
      cases hoe : ob.e with
      | s _ => rw [hoe] at hop; cases hop
      | z t3 => rw [hoe] at hop; simp only [openE] at hop; split at hop <;> cases hop; exact e
      | d t3 => rw [hoe] at hop; simp only [openE] at hop; split at hop <;> cases hop; exact e
      | u => rw [hoe] at hop; simp only [openE] at hop; split at hop <;> cases hop; exact e
      | o t3 j yy => rw [hoe] at hop; simp only [openE] at hop; cases hb : Nat.beq j i <;> rw [hb] at hop <;> cases hop; exact e) hne ha (RO1.one _ _ _ hro1) (fun cs hcl hr => by
      obtain ⟨_, _, hr'⟩ := RK.opn ha hop hr
      obtain ⟨vs, T1, Tr, k1, k2, k3, k4, k5⟩ := hr'.focus ha hg
      have e1 := RO1.size _ _ _ k1
      refine ⟨by omega, Tr, fun g hg => k2.right hg, k5 y' _ (fun _ => False) Tr hyz hro1 (Split.l0 noF)⟩) rfl hi0 (by rw [hs0, ← hsz, ← hyz]; exact hsz1.symm)
    exact fin hrun hsim rfl rfl
  · -- scalars stored into a row that is owned in depth
    have hra : RA S w (s.ev y) (a.eval y).cells.toList := by
      have : isDataA s (s.ev y) = true := by
        cases hq : s.ev y with
        | v x => rw [hq] at hrv; unfold RV at hrv; simpa [isDataA] using hrv.2
        | agg xs => rfl
        | _ => rw [hq] at hyn; simp [noLst] at hyn
      have h2 := (dat_rv (S' := S) (hp' := s.hp) (B' := B) (V' := V) h (fun _ h => h) (fun l hl ob ho hs => by
        cases hq : s.ev y with
        | v x => rw [hq] at hl; simp [ownsA] at hl
        | agg xs => rw [hq] at hl; simp [ownsA] at hl
        | _ => rw [hq] at hyn; simp [noLst] at hyn) this hrv).2
      cases hq : s.ev y with
      | v x => rw [hq] at h2; exact h2
      | agg xs => rw [hq] at h2; exact h2
      | _ => rw [hq] at hyn; simp [noLst] at hyn
    have hrd : RD w (s.ev y) Fa (a.eval y).cells.toList := RA.toRD noF _ _ hyn hra
    have hne : ob.xs ≠ [] := fun e => by rw [e] at hq; simp at hq
    obtain ⟨tt, cs0, _, _, h0, _, ha, _⟩ := hro.block hne
    have key : ∀ (p : List Nat) (q : AV) (T : Nat → Prop) (us : List Value) (c0 c : Nat), RD w q T us → getP q p c0 = some (z, c) → ∃ T', (∀ g, T' g → T g) ∧ (c - c0) + asz z ≤ us.length ∧ RD w (setP q p (s.ev y)) T' (us.take (c - c0) ++ (a.eval y).cells.toList ++ us.drop (c - c0 + (a.eval y).cells.toList.length)) ∧ asz (setP q p (s.ev y)) = asz q ∧ c0 ≤ c := by
      intro p
      induction p with
      | nil =>
        intro q T us c0 c h1 hg
        unfold getP at hg; cases hg
        have e1 := RD.size _ _ _ h1
        have e2 := RD.size _ _ _ hrd
        refine ⟨Fa, fun g hg => hg.elim, by omega, ?_, hyz, Nat.le_refl _⟩
        simp only [setP, Nat.sub_self, List.take_zero, List.nil_append, Nat.zero_add]
        rw [List.drop_eq_nil_of_le (by omega), List.append_nil]; exact hrd
      | cons j p ih =>
        intro q T us c0 c h1 hg
        cases q with
        | agg xs =>
          simp only [getP] at hg
          cases hq : xs[j]? with
          | none => rw [hq] at hg; cases hg
          | some x =>
            rw [hq] at hg
            simp only at hg
            unfold RD at h1
            obtain ⟨hlt, ee⟩ := List.getElem?_eq_some_iff.1 hq
            have hsp : xs = xs.take j ++ (x :: xs.drop (j + 1)) := by rw [← ee, ← List.drop_eq_getElem_cons hlt, List.take_append_drop]
            rw [hsp] at h1
            obtain ⟨d0, d, T0, T1, e1, s1, k1, k2⟩ := RDL.parts h1
            unfold RDL at k2
            obtain ⟨d1, d2, T2, T3, e2, s2, k3, k4⟩ := k2
            have l0 := RDL.size _ _ _ k1
            obtain ⟨T', n1, n2, n3, n4, n5⟩ := ih x T2 d1 _ c k3 hg
            have e5 := RD.size _ _ _ k3
            have e6 := RD.size _ _ _ hrd
            refine ⟨fun g => T0 g ∨ (T' g ∨ T3 g), fun g hg => ?_, by rw [e1, e2]; simp only [List.length_append]; omega, ?_, ?_, by omega⟩
            · rcases hg with hg | hg | hg
              · exact s1.left hg
              · exact s1.right (s2.left (n1 g hg))
              · exact s1.right (s2.right hg)
            · simp only [setP, hq]
              unfold RD
              have hset : xs.set j (setP x p (s.ev y)) = xs.take j ++ (setP x p (s.ev y) :: xs.drop (j + 1)) := by rw [List.set_eq_take_append_cons_drop, if_pos hlt]
              rw [hset]
              have e3 : us.take (c - c0) = d0 ++ d1.take (c - (c0 + aszs (xs.take j))) := by
                rw [e1, e2, List.take_append, List.take_of_length_le (by omega), List.take_append_of_le_length (by omega)]
                congr 2; omega
              have e4 : us.drop (c - c0 + (a.eval y).cells.toList.length) = d1.drop (c - (c0 + aszs (xs.take j)) + (a.eval y).cells.toList.length) ++ d2 := by
                rw [e1, e2, List.drop_append, List.drop_eq_nil_of_le (by omega), List.nil_append, List.drop_append_of_le_length (by omega)]
                congr 2; omega
              rw [e3, e4]
              have : RDL w (setP x p (s.ev y) :: xs.drop (j + 1)) (fun g => T' g ∨ T3 g) ((d1.take (c - (c0 + aszs (xs.take j))) ++ (a.eval y).cells.toList ++ d1.drop (c - (c0 + aszs (xs.take j)) + (a.eval y).cells.toList.length)) ++ d2) := by
                unfold RDL
                exact ⟨_, d2, T', T3, rfl, ⟨fun g => Iff.rfl, fun g a b => s2.2 g (n1 g a) b⟩, n3, k4⟩
              have := RDL.app k1 this (T := fun g => T0 g ∨ (T' g ∨ T3 g)) ⟨fun g => Iff.rfl, fun g a b => b.elim (fun b => s1.2 g a (s2.left (n1 g b))) (fun b => s1.2 g a (s2.right b))⟩
              simp only [List.append_assoc] at this ⊢
              exact this
            · simp only [setP, hq, asz]
              exact aszs_set j hq n4
        | mix xs => unfold RD at h1; exact h1.elim
        | _ => simp [getP] at hg
    have hdl : ∀ cs, RK S w s.hp B V ob.sz ob.xs (T l) cs ob.e → RDL w ob.xs (T l) cs ∧ ∀ (xs' : List AV) (T' : Nat → Prop) (cs' : List Value), (∀ g, T' g → T l g) → RDL w xs' T' cs' → RK S w s.hp B V ob.sz xs' T' cs' ob.e := fun cs hr => by
      cases hoe : ob.e with
      | s _ => rw [hoe] at hdp; cases hdp
      | o _ _ _ => rw [hoe] at hdp; cases hdp
      | z t3 => rw [hoe] at hr; exact ⟨hr.2, fun xs' T' cs' k1 k2 => ⟨fun g hg => hr.1 g (k1 g hg), k2⟩⟩
      | d t3 => rw [hoe] at hr; exact ⟨hr, fun xs' T' cs' k1 k2 => k2⟩
      | u => rw [hoe] at hr; exact ⟨hr, fun xs' T' cs' k1 k2 => k2⟩
    have hagg : ∀ cs, RK S w s.hp B V ob.sz ob.xs (T l) cs ob.e → cs.length = ob.xs.length * ob.sz → (i * ob.sz + c) + asz z ≤ cs.length ∧ asz (setP q p (s.ev y)) = asz q ∧ ∃ T', (∀ g, T' g → T l g) ∧ RDL w (ob.xs.set i (setP q p (s.ev y))) T' (cs.take (i * ob.sz + c) ++ (a.eval y).cells.toList ++ cs.drop (i * ob.sz + c + (a.eval y).cells.toList.length)) := fun cs hr hcl => by
      have h1 : RD w (.agg ob.xs) (T l) cs := by unfold RD; exact (hdl cs hr).1
      have hpre : aszs (ob.xs.take i) = i * ob.sz := by rw [aszs_const (fun x hx' => ha x (List.mem_of_mem_take hx')), List.length_take, Nat.min_eq_left (by have := (List.getElem?_eq_some_iff.1 hq).1; omega)]
      have hcc : ∀ (p : List Nat) (q : AV) (c0 c k : Nat), getP q p c0 = some (z, c) → getP q p (c0 + k) = some (z, c + k) := by
        intro p
        induction p with
        | nil => intro q c0 c k h; unfold getP at h ⊢; cases h; rfl
        | cons j p ih =>
          intro q c0 c k h
          cases q with
          | agg xs =>
            simp only [getP] at h ⊢
            cases hq : xs[j]? with
            | none => rw [hq] at h; cases h
            | some x => rw [hq] at h; simp only at h ⊢; have := ih x _ _ k h; rw [show c0 + k + aszs (xs.take j) = c0 + aszs (xs.take j) + k from by omega]; exact this
          | mix xs =>
            simp only [getP] at h ⊢
            cases hq : xs[j]? with
            | none => rw [hq] at h; cases h
            | some x => rw [hq] at h; simp only at h ⊢; have := ih x _ _ k h; rw [show c0 + k + aszs (xs.take j) = c0 + aszs (xs.take j) + k from by omega]; exact this
          | _ => simp [getP] at h
      have hg2 : getP (.agg ob.xs) (i :: p) 0 = some (z, i * ob.sz + c) := by
        simp only [getP, hq, hpre]
        have := hcc p q 0 c (i * ob.sz) hg
        rw [show c + i * ob.sz = i * ob.sz + c from by omega] at this
        exact this
      obtain ⟨T', n1, n2, n3, n4, n5⟩ := key (i :: p) (.agg ob.xs) (T l) cs 0 _ h1 hg2
      simp only [Nat.sub_zero, setP, hq] at n2 n3
      unfold RD at n3
      obtain ⟨_, _, _, _, _, hrx, _⟩ := hro.block hne
      have hq2 : asz (setP q p (s.ev y)) = asz q := by
        obtain ⟨d0, d, T0, T1, e1, s1, k1, k2⟩ := RDL.parts (xs := ob.xs.take i) (ys := ob.xs.drop i) (by rw [List.take_append_drop]; exact (hdl cs hr).1)
        obtain ⟨hlt, ee⟩ := List.getElem?_eq_some_iff.1 hq
        rw [List.drop_eq_getElem_cons hlt, ee] at k2
        unfold RDL at k2
        obtain ⟨d1, d2, T2, T3, e2, s2, k3, k4⟩ := k2
        exact (key p q T2 d1 0 c k3 hg).choose_spec.2.2.2.1
      exact ⟨n2, hq2, T', n1, n3⟩
    obtain ⟨tt2, cs2, _, _, _, hr2, _⟩ := hro.block hne
    have hqs := (hagg cs2 hr2 (hr2.size ha)).2.1
    have e3 := RA.size _ _ hra
    obtain ⟨w1, T', hrun, hsim⟩ := store_sim (P := P) h ho (ob' := ⟨ob.e, ob.sz, ob.xs.set i (setP q p (s.ev y))⟩) (q0 := i * ob.sz + c) (vs := (a.eval y).cells.toList) rfl set_len (fun t' e => e) hne (all_set ha hq hqs) (RA.one _ _ hra) (fun cs hcl hr => by
      obtain ⟨m1, m2, T', m3, m4⟩ := hagg cs hr hcl
      exact ⟨by omega, T', m3, (hdl cs hr).2 _ T' _ m3 m4⟩) rfl hi0 (by rw [hs0, ← hsz, ← hyz]; exact e3.symm)
    exact fin hrun hsim rfl rfl
  · -- a row of one element, set anew
    have hro1 := hrv.toO h.oneV hy
    have hsz1 := RO1.size _ _ _ hro1
    have hne : ob.xs ≠ [] := fun e => by rw [e] at hxs; cases hxs
    obtain ⟨tt, cs0, _, _, h0, _, ha, _⟩ := hro.block hne
    have hqz : asz q = ob.sz := ha q (by rw [hxs]; simp)
    obtain ⟨w1, T', hrun, hsim⟩ := store_sim (P := P) h ho (ob' := ⟨.o (some t0) 0 y', ob.sz, [y']⟩) (q0 := 0 * ob.sz + 0) (vs := (a.eval y).cells.toList) rfl (by rw [hxs]; rfl) (fun t' e => by rw [he]; exact e) hne (asz_all (hyz.trans hqz)) (RO1.one _ _ _ hro1) (fun cs hcl hr => by
      rw [hxs] at hcl
      simp only [List.length_singleton, Nat.one_mul] at hcl
      refine ⟨by omega, fun _ => False, fun g hg => hg.elim, ?_⟩
      simp only [Nat.zero_mul, Nat.add_zero, List.take_zero, List.nil_append, Nat.zero_add]
      rw [List.drop_eq_nil_of_le (by omega), List.append_nil]
      exact ro_sing (hyz.trans hqz) hro1) rfl hi0 (by rw [hs0, ← hsz, ← hyz]; exact hsz1.symm)
    exact fin hrun hsim rfl rfl
end
end Go.Proofs.Ytmafbodblpgcjaa.AM
