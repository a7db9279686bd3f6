/- The machine over data, second make (N12): calls of functions; every step in one theorem. -/
import Derived.Test.YtmafbodblpgcjaaN11
namespace Go.Proofs.Ytmafbodblpgcjaa.AM
open Go Go.RowKit
set_option linter.unusedVariables false
set_option linter.unusedSimpArgs false
section
variable {P : Program} {Θ : Tab} {W : World} {M : Hand} {S0 : Nat → Prop} {n : Nat} {s : St} {a : Act} {w : World} {S : Nat → Prop} {B : Nat → Nat} {V : Nat → Value} {T : Nat → Nat → Prop} {tmps : Array Value}
variable {K : Act → World → Prop} {Q : Exit → Act → World → Prop}
theorem RVs.app {S : Nat → Prop} {w : World} {hp : Nat → Option OB} : ∀ {xs ys : List AV} {us vs : List Value}, RVs S w hp B V xs us → RVs S w hp B V ys vs → RVs S w hp B V (xs ++ ys) (us ++ vs)
  | [], ys, us, vs, h, k => by unfold RVs at h; subst h; exact k
  | x :: xs, ys, us, vs, h, k => by
    unfold RVs at h
    obtain ⟨u, us', rfl, h1, h2⟩ := h
    show RVs _ _ _ _ _ (x :: (xs ++ ys)) (u :: (us' ++ vs))
    unfold RVs
    exact ⟨u, _, rfl, h1, RVs.app h2 k⟩
theorem Rows.none {S : Nat → Prop} {w : World} {B : Nat → Nat} {V : Nat → Value} {T : Nat → Nat → Prop} {lo : Nat → Prop} : Rows S w (rowsF 0 []) (fun _ => none) B V T lo :=
  ⟨fun l ob e => by simp [rowsF] at e, fun l ob g e => by simp [rowsF] at e, fun l ob g e => by simp [rowsF] at e, fun l l' ob ob' g e => by simp [rowsF] at e, fun l es e => by cases e⟩
theorem noHB {V : Nat → Value} {T : Nat → Nat → Prop} : NoT (HB (rowsF 0 []) V T) := fun g ⟨l, ob, e, _⟩ => by simp [rowsF] at e
mutual
/-- what is handed over keeps its label, what is read becomes a datum -/
theorem datH_rv (h : SimW W M S0 s tmps w S B V T) {Ls : List Nat} {S' : Nat → Prop} (hm : ∀ b, S b → S' b) : ∀ (x : AV) (u : Value), (∀ l ∈ readsL Ls (ownsA x), ∀ ob, s.hp l = some ob → ob.e.shut = true → ∀ g, Blk V T l g → S' g) → argH s Ls x = true → RV S w s.hp B V x u → RV S' w s.hp B V (s.datH Ls x) u
  | .own l, u, hb, hd, hr => by
    simp only [St.datH]
    cases hc : Ls.contains l with
    | true => simp only [cond_true]; exact RV.carry hm (fun _ _ => rfl) _ _ (fun j _ => Same.refl j) hr
    | false =>
      simp only [cond_false]
      simp only [argH, hc, Bool.false_or] at hd
      exact (dat_rv h hm (fun l' hl' => hb l' (by simp [readsL, ownsA] at hl' ⊢; subst hl'; exact ⟨rfl, by simpa using hc⟩)) hd hr).1
  | .optr l i p c, u, hb, hd, hr => by
    simp only [St.datH]
    cases hc : Ls.contains l with
    | true => simp only [cond_true]; exact RV.carry hm (fun _ _ => rfl) _ _ (fun j _ => Same.refl j) hr
    | false =>
      simp only [cond_false]
      simp only [argH, hc, Bool.false_or] at hd
      exact (dat_rv h hm (fun l' hl' => hb l' (by simp [readsL, ownsA] at hl' ⊢; subst hl'; exact ⟨rfl, by simpa using hc⟩)) hd hr).1
  | .mix xs, u, hb, hd, hr => by
    simp only [St.datH]
    cases hc : (ownsAL xs).all (fun l => Ls.contains l) with
    | true => simp only [cond_true]; exact RV.carry hm (fun _ _ => rfl) _ _ (fun j _ => Same.refl j) hr
    | false =>
      simp only [cond_false]
      simp only [argH, hc, Bool.false_or, Bool.and_eq_true] at hd
      have := (dat_rv (hp' := s.hp) (B' := B) (V' := V) h hm (x := .mix xs) (fun l' hl' => hb l' (by
        have h2 := List.all_eq_true.1 hd.2 l' (by simpa [ownsA] using hl')
        simp only [readsL, List.mem_filter]
        exact ⟨hl', h2⟩)) (by simp only [isDataA]; exact hd.1) hr).1
      simpa only [St.dat] using this
  | .ifc t x, u, hb, hd, hr => by
    unfold RV at hr
    obtain ⟨u', rfl, hr⟩ := hr
    simp only [argH] at hd
    simp only [St.datH]
    unfold RV
    exact ⟨u', rfl, datH_rv h hm x u' (fun l hl => hb l (by simpa [ownsA] using hl)) hd hr⟩
  | .fn f xs ys, u, hb, hd, hr => by
    unfold RV at hr
    obtain ⟨us, vs, rfl, h1, h2⟩ := hr
    simp only [argH, Bool.and_eq_true] at hd
    simp only [St.datH]
    unfold RV
    exact ⟨us, vs, rfl, datHL_rvs h hm xs us (fun l hl => hb l (by simp only [readsL, List.mem_filter, ownsA, List.mem_append] at hl ⊢; exact ⟨.inl hl.1, hl.2⟩)) hd.1 h1, datHL_rvs h hm ys vs (fun l hl => hb l (by simp only [readsL, List.mem_filter, ownsA, List.mem_append] at hl ⊢; exact ⟨.inr hl.1, hl.2⟩)) hd.2 h2⟩
  | .any, u, _, _, _ => by simp only [St.datH]; unfold RV; trivial
  | .v x, u, _, _, hr => by simp only [St.datH]; unfold RV at hr ⊢; exact hr
  | .agg xs, u, _, _, hr => by simp only [St.datH]; exact RV.carry hm (fun _ _ => rfl) _ _ (fun j _ => Same.refl j) hr
  | .lst sz xs, u, _, _, hr => by simp only [St.datH]; exact RV.carry hm (fun _ _ => rfl) _ _ (fun j _ => Same.refl j) hr
  | .ptr x, u, _, _, hr => by simp only [St.datH]; exact RV.carry hm (fun _ _ => rfl) _ _ (fun j _ => Same.refl j) hr
  | .tup xs, u, _, hd, _ => by simp [argH] at hd
  | .mapv _, u, _, hd, _ => by simp [argH] at hd
  | .rd _, u, _, hd, _ => by simp [argH] at hd
theorem datHL_rvs (h : SimW W M S0 s tmps w S B V T) {Ls : List Nat} {S' : Nat → Prop} (hm : ∀ b, S b → S' b) : ∀ (xs : List AV) (us : List Value), (∀ l ∈ readsL Ls (ownsAL xs), ∀ ob, s.hp l = some ob → ob.e.shut = true → ∀ g, Blk V T l g → S' g) → argsH s Ls xs = true → RVs S w s.hp B V xs us → RVs S' w s.hp B V (s.datHL Ls xs) us
  | [], us, _, _, hr => by unfold RVs at hr; simp only [St.datHL]; unfold RVs; exact hr
  | x :: xs, us, hb, hd, hr => by
    unfold RVs at hr
    obtain ⟨u, us', rfl, h1, h2⟩ := hr
    simp only [argsH, Bool.and_eq_true] at hd
    simp only [St.datHL]
    unfold RVs
    exact ⟨u, us', rfl, datH_rv h hm x u (fun l hl => hb l (by simp only [readsL, List.mem_filter, ownsAL, List.mem_append] at hl ⊢; exact ⟨.inl hl.1, hl.2⟩)) hd.1 h1, datHL_rvs h hm xs us' (fun l hl => hb l (by simp only [readsL, List.mem_filter, ownsAL, List.mem_append] at hl ⊢; exact ⟨.inr hl.1, hl.2⟩)) hd.2 h2⟩
end
mutual
theorem killA_idem (l : Nat) : ∀ x : AV, killA l (killA l x) = killA l x
  | .own k => by simp only [killA]; cases e : Nat.beq k l <;> simp [killA, e]
  | .optr k i p c => by simp only [killA]; cases e : Nat.beq k l <;> simp [killA, e]
  | .mapv k => by simp only [killA]; cases e : Nat.beq k l <;> simp [killA, e]
  | .mix xs => by simp only [killA, killL_idem l xs]
  | .fn f xs ys => by simp only [killA]; cases e : namesL l xs || namesL l ys <;> simp [killA, e]
  | .ifc t x => by simp only [killA]; cases e : x.names l <;> simp [killA, e]
  | .any => rfl
  | .v _ => rfl
  | .agg _ => rfl
  | .lst _ _ => rfl
  | .ptr _ => rfl
  | .rd _ => rfl
  | .tup xs => rfl
theorem killL_idem (l : Nat) : ∀ xs : List AV, killL l (killL l xs) = killL l xs
  | [] => rfl
  | x :: xs => by simp only [killL, killA_idem l x, killL_idem l xs]
end
theorem killO_idem (l : Nat) (o : Option OB) : killO l (killO l o) = killO l o := by
  cases o with
  | none => rfl
  | some ob =>
    obtain ⟨e, sz, xs⟩ := ob
    cases e <;> simp [killO, killE, killA_idem]
theorem run_value {g : Operand} {f : FuncId} {us vs : List Value} {dst : Option Tmp} {ags : Array Operand} {ts : Array TypeId} {ty : TypeId} {pos : String} {after : Array Edge} {guard : Option (Nat × Bool)} (hg : a.eval g = .func (.func f) us.toArray vs.toArray) (hent : ∀ vs w, (callFunc f vs).run P w = .ok (.enter f vs) w) :
    (execOp a.eval ⟨dst, .call ⟨.value g, ags, ts⟩, ty, pos, after, guard⟩).run P w = .ok (.enter f (us ++ ags.toList.map a.eval ++ vs).toArray) w := by
  simp only [execOp, resolve, hg, Deferred.ofValue, invoke, Sem.run_bind, Sem.run_pure, Result.andThen_ok, hent]
  congr 2
  apply Array.ext'
  simp
theorem frzL_free {ls : List Nat} (hd : ∀ d, s.hp d = none → (frzL ls s).hp d = none) (d : Nat) : ∀ (obs : List OB) (k : Nat), freeObs s d k obs → freeObs (frzL ls s) d k obs
  | [], _, _ => trivial
  | ob :: r, k, h => ⟨⟨hd _ h.1.1, h.1.2⟩, frzL_free hd d r (k + 1) h.2⟩
theorem setHanded_free {Ls : List Nat} {d : Nat} : ∀ (obs : List OB) (k : Nat) {s1 : St}, (∀ l, s.hp l = none → s1.hp l = none) → freeObs s d k obs → freeObs s1 d k obs
  | [], _, _, _, _ => trivial
  | ob :: r, k, s1, hh, h => ⟨⟨hh _ h.1.1, h.1.2⟩, setHanded_free (Ls := Ls) r (k + 1) hh h.2⟩
theorem setU_eq {d : Tmp} {v : AV} {k : Nat} {obs : List OB} : s.app (some d) ⟨v, setU k obs⟩ = (setObs k 0 obs s).put (some d) v := by cases obs <;> rfl

theorem pre_call (hn : a.tmps.size = n) (hdf : a.defers = []) (h : SimW W M S0 s a.tmps w S B V T) {dst : Option Tmp} {g : Operand} {ags : Array Operand} {ts : Array TypeId} {ty : TypeId} {pos : String} {after : Array Edge} {guard : Option (Nat × Bool)} {e : Eff}
    (hp : Pre P Θ ⟨dst, .call ⟨.value g, ags, ts⟩, ty, pos, after, guard⟩ s e) (hin : inN n dst = true) (hK : ∀ a' w', Sim W M S0 n (s.app dst e) a' w' → K a' w') : (⟨dst, .call ⟨.value g, ags, ts⟩, ty, pos, after, guard⟩ : Oper).wp P a w K Q := by
  simp only [Pre] at hp
  obtain ⟨f, xs, ys, d, out, hg, rfl, hcs, hp⟩ := hp
  have hgv := ev_tmp h hg (fun c => by simp)
  unfold RV at hgv
  obtain ⟨us, vs, eg, r1, r2⟩ := hgv
  have hA : RVs S w s.hp B V (xs ++ ags.toList.map s.ev ++ ys) (us ++ ags.toList.map a.eval ++ vs) := RVs.app (RVs.app r1 (evs_rv h _ hcs)) r2
  generalize hAA : xs ++ ags.toList.map s.ev ++ ys = A at *
  generalize hVV : us ++ ags.toList.map a.eval ++ vs = VS at *
  rcases hp with ⟨args, hargs, hac, hfree, hok, hp⟩ | ⟨args, rin, rout, Ls, hargs, hac, hh, hnd, hsz, hfree, hok, hwi, hwe, hfl, rfl⟩
  · have hent := hac.1
    have hrun := run_value (P := P) (w := w) (dst := some d) (ts := ts) (ty := ty) (pos := pos) (after := after) (guard := guard) (ags := ags) eg hent
    rw [hVV] at hrun
    subst hargs
    rcases hp with ⟨hfl, rfl⟩ | ⟨hall, rfl⟩
    · -- what may be read by the callee
      obtain ⟨Sc, hSc, hScl, hcase⟩ : ∃ Sc : Nat → Prop, (∀ b, S b → Sc b) ∧ (∀ b, Sc b → b < w.heap.size) ∧ (((∀ b, Sc b → S b) ∧ ownsAL A = []) ∨ (out.flat ∧ ∀ l ob g, s.hp l = some ob → Blk V T l g → Sc g)) := by
        rcases hfl with hfl | hfl
        · exact ⟨S, fun _ h => h, fun b hb => (h.slt b hb).1, .inl ⟨fun _ h => h, hfl⟩⟩
        · refine ⟨fun b => S b ∨ ∃ l ob, s.hp l = some ob ∧ Blk V T l b, fun _ h => .inl h, fun b hb => ?_, .inr ⟨hfl, fun l ob g ho hg => .inr ⟨l, ob, ho, hg⟩⟩⟩
          rcases hb with hb | ⟨l, ob, ho, hg⟩
          · exact (h.slt b hb).1
          · exact (h.rows.me l ob b ho hg).2.1
      have hargs := args_rv (hp' := rowsF 0 []) (B' := fun _ => 0) (V' := fun _ => undef) h hSc A VS (fun l hl ob ho _ g hg => by
        rcases hcase with ⟨_, hno⟩ | ⟨_, hall⟩
        · rw [hno] at hl; simp at hl
        · exact hall l ob g ho hg) hok hA
      unfold Oper.wp
      rw [hrun]
      show Calls P f VS.toArray w _
      refine (hac.2 w Sc _ _ (fun _ _ => False) VS hScl Rows.none hargs).mono ?_
      rintro e' w' ⟨v, S1, B2, V2, T2, T1, rfl, hgr, m1, hs1, hrv, hro, _, _⟩
      show K (a.put (some d) v) w'
      have hbel := hgr.below noHB
      have hs1 : ∀ b, S1 b → b < w'.heap.size ∧ (Sc b ∨ w.heap.size ≤ b) := fun b hb => ⟨(hs1 b hb).1, (hs1 b hb).2.imp id (fun h => h.resolve_right (noHB b))⟩
      have hro : Rows S1 w' (obsF out.obs) (fun _ => none) B2 V2 T2 (fun g => w.heap.size ≤ g) := ⟨hro.ro, fun l ob g ho hg => ⟨(hro.me l ob g ho hg).1, (hro.me l ob g ho hg).2.1, (hro.me l ob g ho hg).2.2.resolve_right (noHB g)⟩, hro.nd, hro.ds, hro.mp⟩
      obtain ⟨S2, q1, q2, q3, q4⟩ : ∃ S2 : Nat → Prop, (∀ b, S b → S2 b) ∧ (∀ b, S2 b → b < w'.heap.size ∧ (S b ∨ w.heap.size ≤ b)) ∧ RV S2 w' (obsF out.obs) B2 V2 out.val v ∧ Rows S2 w' (obsF out.obs) (fun _ => none) B2 V2 T2 (fun g => w.heap.size ≤ g) := by
        rcases hcase with ⟨hsub, _⟩ | ⟨hflat, _⟩
        · exact ⟨S1, fun b hb => m1 b (hSc b hb), fun b hb => ⟨(hs1 b hb).1, (hs1 b hb).2.imp (hsub b) id⟩, hrv, hro⟩
        · refine ⟨fun b => S b ∨ (w.heap.size ≤ b ∧ S1 b), fun b hb => .inl hb, fun b hb => ?_, RV.flat _ _ hflat.1 hrv, hro.flat (fun l ob ho => hflat.2 ob (List.mem_of_getElem? ho)) (fun g hg => ?_)⟩
          · rcases hb with hb | hb
            · exact ⟨Nat.lt_of_lt_of_le (h.slt b hb).1 hbel.size, .inl hb⟩
            · exact ⟨(hs1 b hb.2).1, .inr hb.1⟩
          · rcases hg with hg | hg
            · exact m1 g (hSc g hg)
            · exact hg.2
      have hsim := (h.world hbel).more q1 (fun b hb => ⟨(q2 b hb).1, by
        rcases (q2 b hb).2 with hb' | hb'
        · exact (h.slt b hb').2
        · exact .inr (.inl (Nat.le_trans h.below.size hb'))⟩) (fun l ob g ho hg hs => by
        obtain ⟨k1, k2, k3⟩ := h.rows.me l ob g ho hg
        rcases (q2 g hs).2 with hb' | hb'
        · exact k1 hb'
        · omega)
      rw [setU_eq] at hK
      exact hK _ _ (call_done hn hdf hsim q3 ⟨q4.ro, fun l ob g ho hg => by
        obtain ⟨k1, k2, k3⟩ := q4.me l ob g ho hg
        exact ⟨k1, k2, .inl (Nat.le_trans h.below.size k3)⟩, q4.nd, q4.ds, q4.mp⟩ (fun l ob g ho hg j o hj hb => by
        have := (q4.me l ob g ho hg).2.2
        have := (h.rows.me j o g hj hb).2.1
        omega) hfree hin)
    · -- the rows among the arguments are given up
      obtain ⟨Sf, mf, hF, rf, df, _⟩ := frzL_sim (ownsAL A) hall h
      have hargs := args_rv (hp' := rowsF 0 []) (B' := fun _ => 0) (V' := fun _ => undef) h mf A VS (fun l hl ob ho hs g hg => rf l hl ob ho hs g hg) hok hA
      unfold Oper.wp
      rw [hrun]
      show Calls P f VS.toArray w _
      refine (hac.2 w Sf _ _ (fun _ _ => False) VS (fun b hb => (hF.slt b hb).1) Rows.none hargs).mono ?_
      rintro e' w' ⟨v, S1, B2, V2, T2, T1, rfl, hgr, m1, hs1, hrv, hro, _, _⟩
      show K (a.put (some d) v) w'
      have hbel := hgr.below noHB
      have hs1 : ∀ b, S1 b → b < w'.heap.size ∧ (Sf b ∨ w.heap.size ≤ b) := fun b hb => ⟨(hs1 b hb).1, (hs1 b hb).2.imp id (fun h => h.resolve_right (noHB b))⟩
      have hro : Rows S1 w' (obsF out.obs) (fun _ => none) B2 V2 T2 (fun g => w.heap.size ≤ g) := ⟨hro.ro, fun l ob g ho hg => ⟨(hro.me l ob g ho hg).1, (hro.me l ob g ho hg).2.1, (hro.me l ob g ho hg).2.2.resolve_right (noHB g)⟩, hro.nd, hro.ds, hro.mp⟩
      have hsim := (hF.world hbel).more m1 (fun b hb => ⟨(hs1 b hb).1, by
        rcases (hs1 b hb).2 with hb' | hb'
        · exact (hF.slt b hb').2
        · exact .inr (.inl (Nat.le_trans hF.below.size hb'))⟩) (fun l ob g ho hg hs => by
        obtain ⟨k1, k2, k3⟩ := hF.rows.me l ob g ho hg
        rcases (hs1 g hs).2 with hb' | hb'
        · exact k1 hb'
        · omega)
      have heq : s.app (some d) ⟨ren (d + 1) out.val, frzT (ownsAL A) (setObs (d + 1) 0 out.obs)⟩ = (setObs (d + 1) 0 out.obs (frzL (ownsAL A) s)).put (some d) (ren (d + 1) out.val) := frzT_eq
      rw [heq] at hK
      exact hK _ _ (call_done hn hdf hsim hrv ⟨hro.ro, fun l ob g ho hg => by
        obtain ⟨k1, k2, k3⟩ := hro.me l ob g ho hg
        exact ⟨k1, k2, .inl (Nat.le_trans h.below.size k3)⟩, hro.nd, hro.ds, hro.mp⟩ (fun l ob g ho hg j o hj hb => by
        have := (hro.me l ob g ho hg).2.2
        have := (hF.rows.me j o g hj hb).2.1
        omega) (frzL_free df _ _ _ hfree) hin)
  · -- rows are handed over
    have hent := hac.1
    have hrun := run_value (P := P) (w := w) (dst := some d) (ts := ts) (ty := ty) (pos := pos) (after := after) (guard := guard) (ags := ags) eg hent
    rw [hVV] at hrun
    have hwin : ∀ ob ∈ rin, withinE (fun l => (rowsF 0 rin l).isSome) ob.e = true := fun ob ho => List.all_eq_true.1 hwe ob (List.mem_append_left _ ho)
    have hwout : ∀ ob ∈ rout, withinE (fun l => (rowsF 0 rin l).isSome) ob.e = true := fun ob ho => List.all_eq_true.1 hwe ob (List.mem_append_right _ ho)
    obtain ⟨Sc, hSc, hScl, hScf, hcase⟩ : ∃ Sc : Nat → Prop, (∀ b, S b → Sc b) ∧ (∀ b, Sc b → b < w.heap.size) ∧ (∀ l ∈ Ls, ∀ ob g, s.hp l = some ob → Blk V T l g → ¬ Sc g) ∧ (((∀ b, Sc b → S b) ∧ readsL Ls (ownsAL A) = []) ∨ ((out.flat ∧ ∀ ob ∈ rout, flatO ob) ∧ ∀ l ob g, l ∉ Ls → s.hp l = some ob → Blk V T l g → Sc g)) := by
      rcases hfl with hfl | hfl
      · exact ⟨S, fun _ h => h, fun b hb => (h.slt b hb).1, fun l _ ob g ho hg => (h.rows.me l ob g ho hg).1, .inl ⟨fun _ h => h, hfl⟩⟩
      · refine ⟨fun b => S b ∨ ∃ l ob, l ∉ Ls ∧ s.hp l = some ob ∧ Blk V T l b, fun _ h => .inl h, fun b hb => ?_, fun l hl ob g ho hg hs => ?_, .inr ⟨hfl, fun l ob g hl ho hg => .inr ⟨l, ob, hl, ho, hg⟩⟩⟩
        · rcases hb with hb | ⟨l, ob, _, ho, hg⟩
          · exact (h.slt b hb).1
          · exact (h.rows.me l ob b ho hg).2.1
        · rcases hs with hs | ⟨l', ob', hl', ho', hg'⟩
          · exact (h.rows.me l ob g ho hg).1 hs
          · exact hl' (h.rows.ds l l' ob ob' g ho ho' hg hg' ▸ hl)
    obtain ⟨hrows, hmem⟩ := hand_in h hh hnd hwin hSc hScf
    have hdat := datHL_rvs h (Ls := Ls) hSc A VS (fun l hl ob ho _ g hg => by
      rcases hcase with ⟨_, hno⟩ | ⟨_, hall⟩
      · rw [hno] at hl; simp at hl
      · have hl' : l ∉ Ls := by simp only [readsL, List.mem_filter] at hl; simpa using hl.2
        exact hall l ob g hl' ho hg) hok hA
    rw [hargs] at hdat
    have hargs' := (RVs.map (S := Sc) (w := w) (hp := rowsF 0 rin) (hp' := s.hp) (B := fun l => B (subl 0 Ls l)) (B' := B) (V := fun l => V (subl 0 Ls l)) (V' := V) (ρ := subl 0 Ls) args VS (fun l hl => by
      have := withinL_names args hwi hl
      obtain ⟨o, ho⟩ := Option.isSome_iff_exists.1 this
      exact ⟨o, subO Ls o, ho, (hmem l o ho).2, rfl, rfl, rfl⟩)).2 hdat
    unfold Oper.wp
    rw [hrun]
    show Calls P f VS.toArray w _
    refine (hac.2 w Sc _ _ (fun l => T (subl 0 Ls l)) VS hScl hrows hargs').mono ?_
    rintro e' w' ⟨v, S1, B2, V2, T2, T1, rfl, hgr, m1, hs1, hrv, hro, hhd, hx⟩
    show K (a.put (some d) v) w'
    obtain ⟨S2, q1, q2, q3, q4, q5⟩ : ∃ S2 : Nat → Prop, (∀ b, S b → S2 b) ∧ (∀ b, S2 b → b < w'.heap.size ∧ (S b ∨ w.heap.size ≤ b ∨ HB (rowsF 0 rin) (fun l => V (subl 0 Ls l)) (fun l => T (subl 0 Ls l)) b)) ∧ RV S2 w' (obsF out.obs) B2 V2 out.val v ∧ Rows S2 w' (obsF out.obs) (fun _ => none) B2 V2 T2 (fun g => w.heap.size ≤ g ∨ HB (rowsF 0 rin) (fun l => V (subl 0 Ls l)) (fun l => T (subl 0 Ls l)) g) ∧ Rows S2 w' (rowsF 0 rout) (fun _ => none) (fun l => B (subl 0 Ls l)) (fun l => V (subl 0 Ls l)) T1 (fun g => w.heap.size ≤ g ∨ HB (rowsF 0 rin) (fun l => V (subl 0 Ls l)) (fun l => T (subl 0 Ls l)) g) := by
      rcases hcase with ⟨hsub, _⟩ | ⟨hflat, _⟩
      · exact ⟨S1, fun b hb => m1 b (hSc b hb), fun b hb => ⟨(hs1 b hb).1, (hs1 b hb).2.imp (hsub b) id⟩, hrv, hro, hhd⟩
      · have hsub : ∀ g, (S g ∨ (w.heap.size ≤ g ∧ S1 g)) → S1 g := fun g hg => hg.elim (fun hg => m1 g (hSc g hg)) (fun hg => hg.2)
        refine ⟨fun b => S b ∨ (w.heap.size ≤ b ∧ S1 b), fun b hb => .inl hb, fun b hb => ?_, RV.flat _ _ hflat.1.1 hrv, hro.flat (fun l ob ho => hflat.1.2 ob (List.mem_of_getElem? ho)) hsub, hhd.flat (fun l ob ho => by obtain ⟨k, _, h2⟩ := rowsF_at rout 0 l ob ho; exact hflat.2 ob (List.mem_of_getElem? h2)) hsub⟩
        rcases hb with hb | hb
        · exact ⟨Nat.lt_of_lt_of_le (h.slt b hb).1 hgr.size, .inl hb⟩
        · exact ⟨(hs1 b hb.2).1, .inr (.inl hb.1)⟩
    obtain ⟨T3, hsim, hblk⟩ := hand_out h hh hnd hsz hwout hgr q1 q2 hmem q5
    obtain ⟨hlen, hat⟩ := handed_at Ls rin hh
    have hlen' : Ls.length = rout.length := by rw [hlen]; have := congrArg List.length hsz; simpa using this.symm
    obtain ⟨p1, p2, p3, p4⟩ := setHanded_at (Ls := Ls) Ls rout s hnd hlen'
    refine hK _ _ (call_done hn hdf hsim q3 ⟨q4.ro, fun l ob g ho hg => by
      obtain ⟨k1, k2, k3⟩ := q4.me l ob g ho hg
      refine ⟨k1, k2, ?_⟩
      rcases k3 with k3 | ⟨l2, ob2, e2, b2⟩
      · exact .inl (Nat.le_trans h.below.size k3)
      · exact (h.rows.me _ _ g (hmem l2 ob2 e2).2 b2).2.2, q4.nd, q4.ds, q4.mp⟩ (fun l ob g ho hg j o hj hb => by
      rcases hblk j o g hj hb with ⟨l', ob', e1, e2⟩ | e1
      · exact hx l l' ob ob' g ho e1 hg e2
      · rcases (q4.me l ob g ho hg).2.2 with k3 | k3
        · have := e1.1; omega
        · exact e1.2 k3) (setHanded_free (s := s) (Ls := Ls) out.obs 0 (fun l hl => by
      by_cases hm : l ∈ Ls
      · obtain ⟨k, hk, e⟩ := List.getElem_of_mem hm
        obtain ⟨l2, e5, e6⟩ := hat k (rin[k]'(by omega)) (List.getElem?_eq_getElem (by omega))
        rw [List.getElem?_eq_getElem hk, e] at e5; cases e5
        rw [e6] at hl; cases hl
      · rw [(p2 l hm).1]; exact hl) hfree) hin)

theorem pre_sound (hΘ : TabOK P Θ) {o : Oper} {e : Eff} (hs : Sim W M S0 n s a w) (hp : Pre P Θ o s e) (hin : inN n o.dst = true) (hK : ∀ a' w', Sim W M S0 n (s.app o.dst e) a' w' → K a' w') : o.wp P a w K Q := by
  obtain ⟨hn, hdf, S, B, V, T, h⟩ := hs
  obtain ⟨dst, op, ty, pos, after, guard⟩ := o
  have scal : ∀ {r : Value}, (execOp a.eval ⟨dst, op, ty, pos, after, guard⟩).run P w = .ok (.value r) w → r.oneCell' = true → e = ⟨.v r, none⟩ → (⟨dst, op, ty, pos, after, guard⟩ : Oper).wp P a w K Q := fun {r} hr h1 he => by
    subst he; exact pure_step hn hdf h hr (one_list h1) hin hK
  have mv : ∀ {x : Operand}, (execOp a.eval ⟨dst, op, ty, pos, after, guard⟩).run P w = .ok (.value (a.eval x)) w → ((∀ c, x = .const c → c.oneCell' = true) ∧ (e = ⟨s.ev x, none⟩ ∨
      (∃ l ob, s.ev x = .own l ∧ s.hp l = some ob ∧ ob.e.shut = true ∧ okL l = true ∧ e = ⟨.lst ob.sz ob.xs, some fun s => s.frz l⟩) ∨
      (∃ d el sz, dst = some d ∧ 0 < sz ∧ ET.shut el = true ∧ okL (d + 1) = true ∧ x = .const (.slice none 0 0) ∧ e = ⟨.own (d + 1), some fun s => (s.kill (d + 1)).set (d + 1) (some ⟨el, sz, []⟩)⟩) ∨
      ∃ l L ob, s.ev x = .own l ∧ s.hp l = some ob ∧ ob.e.shut = true ∧ okL l = true ∧ okL L = true ∧ L ≠ l ∧ e = ⟨.own L, some fun s => s.relab l L ob⟩)) → (⟨dst, op, ty, pos, after, guard⟩ : Oper).wp P a w K Q := fun {x} hrun hp => by
    obtain ⟨hc, rfl | ⟨l, ob, hx, ho, hsh, hok, rfl⟩ | ⟨d, el, sz, rfl, h0, hel, hok, rfl, rfl⟩ | ⟨l, L, ob, hx, ho, hsh, hok, hokL, hne, rfl⟩⟩ := hp
    · exact pure_step hn hdf h hrun (ev_rv h x hc) hin hK
    · have hv := ev_tmp h hx (fun c => by simp)
      unfold RV at hv
      obtain ⟨S', m, h', r⟩ := h.frz l hok
      refine wp_value hrun (hK _ _ (Sim.put hn hdf h' dst ?_ hin))
      rw [hv.2]; unfold RV
      exact dat_own h m ho hsh (r ob ho hsh)
    · refine wp_value hrun (hK _ _ (Sim.put hn hdf (h.nilrow (d := d + 1) (sz := sz) hok hel h0) (some d) ?_ hin))
      unfold RV; exact ⟨⟨_, set_hp⟩, upd_same.symm⟩
    · have hv := ev_tmp h hx (fun c => by simp)
      unfold RV at hv
      -- both labels are forgotten, then the row comes to L
      have hk := (h.kill L).kill l
      have hlL : l ≠ L := Ne.symm hne
      let s2 : St := (s.kill L).kill l
      have hshk : ∀ k, killE k ob.e = ob.e := fun k => killE_shut k _ hsh
      have ho2 : s2.hp l = some ob := by
        show killO l (killO L (s.hp l)) = _
        rw [ho]; simp only [killO, hshk]
      have hnL1 : ∀ t, (s2.sl t).names L = false := fun t => by
        show AV.names L (bif ((s.kill L).sl t).names l then .any else (s.kill L).sl t) = false
        cases ((s.kill L).sl t).names l with
        | true => rfl
        | false => exact (kill_names (s := s) (l := L)).1 t
      have hnL2 : ∀ j o, s2.hp j = some o → namesE L o.e = false := fun j o e => by
        obtain ⟨o1, f1, rfl⟩ := killO_some e
        obtain ⟨o2, f2, rfl⟩ := killO_some f1
        cases hq : namesE L (killE l (killE L o2.e)) with
        | false => rfl
        | true => exact absurd ((namesE_kill L o2.e).symm.trans (namesE_kill_sub l L _ hq)) (by simp)
      have hd := hk.drop l hok
      have hro := h.rows.ro l ob ho
      have hdn : ∀ j o, (s2.drop l).hp j = some o → j ≠ l ∧ ∃ o1, s2.hp j = some o1 ∧ o = ⟨killE l o1.e, o1.sz, o1.xs⟩ := fun j o e => by
        have e0 : (bif Nat.beq j l then none else killO l (s2.hp j)) = some o := e
        have hj : j ≠ l := fun e' => by rw [e'] at e0; simp at e0
        rw [nbne hj] at e0
        obtain ⟨o1, f1, f2⟩ := killO_some e0
        exact ⟨hj, o1, f1, f2⟩
      have hsim := hd.repl (l := L) (w' := w) (ob' := ob) (b' := B l) (v' := V l) (T' := T l) hokL (fun t => by
          show AV.names L (bif (s2.sl t).names l then .any else s2.sl t) = false
          cases (s2.sl t).names l with
          | true => rfl
          | false => exact hnL1 t) (fun j o _ e => by
          obtain ⟨_, o1, f1, rfl⟩ := hdn j o e
          cases hq : namesE L (killE l o1.e) with
          | false => rfl
          | true => exact absurd ((hnL2 j o1 f1).symm.trans (namesE_kill_sub l L _ hq)) (by simp)) (Grown.refl _ _) (hro.any hsh) (fun g hg => by
          obtain ⟨q1, q2, q3⟩ := h.rows.me l ob g ho hg
          refine ⟨q2, .inr ⟨q1, q3, fun j o e hb => ?_⟩⟩
          obtain ⟨hj, o1, f1, _⟩ := hdn j o e
          exact hj (hk.rows.ds j l o1 ob g f1 ho2 hb hg)) (fun g hg => h.rows.nd l ob g ho hg)
      have heq : (s2.drop l).set L (some ob) = s.relab l L ob := by
        show St.mk _ _ _ = St.mk _ _ _
        congr 1
        · funext j
          show (bif (bif (bif (s.sl j).names L then AV.any else s.sl j).names l then AV.any else (bif (s.sl j).names L then AV.any else s.sl j)).names l then AV.any else (bif (bif (s.sl j).names L then AV.any else s.sl j).names l then AV.any else (bif (s.sl j).names L then AV.any else s.sl j))) = (bif (s.sl j).names l || (s.sl j).names L then AV.any else s.sl j)
          cases e1 : (s.sl j).names L <;> cases e2 : (s.sl j).names l <;> simp [e1, e2, AV.names]
        · funext j
          show (bif Nat.beq j L then some ob else bif Nat.beq j l then none else killO l (killO l (killO L (s.hp j)))) = (bif Nat.beq j L then some ob else bif Nat.beq j l then none else killO l (killO L (s.hp j)))
          rw [killO_idem]
        · funext j
          show (bif Nat.beq j L then none else bif Nat.beq j l then none else s.mp j) = (bif Nat.beq j L || Nat.beq j l then none else s.mp j)
          cases Nat.beq j L <;> cases Nat.beq j l <;> rfl
      rw [heq] at hsim
      refine wp_value hrun (hK _ _ (Sim.put hn hdf hsim dst ?_ hin))
      unfold RV; exact ⟨⟨ob, by simp [St.relab]⟩, by rw [upd_same]; exact hv.2⟩
  cases op with
  | move x =>
    simp only [Pre] at hp
    exact mv (by simp only [execOp, Sem.run_pure]) hp
  | assign x =>
    simp only [Pre] at hp
    exact mv (by simp only [execOp, Sem.run_pure]) hp
  | nilCheck x =>
    simp only [Pre] at hp
    obtain ⟨rfl, hp⟩ := hp
    have hnc : ∀ c, x = .const c → c.oneCell' = true := fun c e => by
      subst e
      rcases hp with ⟨y, h1⟩ | ⟨l, i, p, c', h1⟩ | ⟨f, xs, ys, h1⟩ | ⟨t, y, h1⟩ <;> simp [St.ev] at h1
    have hv := ev_rv h x hnc
    have hv0 := hv
    refine pure_step hn hdf h ?_ hv0 hin hK
    rcases hp with ⟨y, h1⟩ | ⟨l, i, p, c', h1⟩ | ⟨f, xs, ys, h1⟩ | ⟨t, y, h1⟩
    · rw [h1] at hv; unfold RV at hv; unfold RA at hv
      obtain ⟨b, off, us, e, _⟩ := hv
      simp only [List.cons.injEq, and_true] at e
      simp only [execOp, e, Sem.run_pure]
    · rw [h1] at hv; unfold RV at hv
      obtain ⟨ob, ho, e⟩ := hv
      simp only [execOp, e, Sem.run_pure]
    · rw [h1] at hv; unfold RV at hv
      obtain ⟨us, vs, e, _⟩ := hv
      simp only [execOp, e, Sem.run_pure]
    · rw [h1] at hv; unfold RV at hv
      obtain ⟨u', e, _⟩ := hv
      simp only [execOp, e, Sem.run_pure]
  | pick c x y =>
    simp only [Pre] at hp
    obtain ⟨hx, hy, t, hc, rfl⟩ := hp
    refine pure_step hn hdf h (v := if t then a.eval x else a.eval y) ?_ ?_ hin hK
    · simp only [execOp]; exact run_pick _ _ _ _ (ev_int h hc)
    · cases t
      · exact ev_rv h y hy
      · exact ev_rv h x hx
  | binOp op t x y t2 =>
    simp only [Pre] at hp
    obtain ⟨p, q, r, hx, hy, hr, h1, rfl⟩ := hp
    refine scal ?_ h1 rfl
    have := hr w
    simp only [execOp, ev_conc h hx, ev_conc h hy]
    rw [Sem.run_bind, this]; rfl
  | unOp op t x =>
    simp only [Pre] at hp
    obtain ⟨p, r, hx, hr, h1, rfl⟩ := hp
    exact scal (by simp only [execOp, ev_conc h hx, Sem.run_bind, hr w, Result.andThen_ok, Sem.run_pure]) h1 rfl
  | convert t1 t2 x =>
    simp only [Pre] at hp
    obtain ⟨p, r, hx, hr, h1, rfl⟩ := hp
    exact scal (by simp only [execOp, ev_conc h hx, Sem.run_bind, hr w, Result.andThen_ok, Sem.run_pure]) h1 rfl
  | index t x i => exact pre_indexV hΘ hn hdf h hp hin hK
  | slice t x lo hi mx => exact pre_slice hΘ hn hdf h hp hin hK
  | extract x i =>
    simp only [Pre] at hp
    obtain ⟨xs, y, hx, hy, rfl⟩ := hp
    have hv := ev_tmp h hx (fun c => by simp)
    unfold RV at hv
    obtain ⟨us, e, hv⟩ := hv
    have hat : ∀ (xs : List AV) (us : List Value) (i : Nat) (y : AV), RVs S w s.hp B V xs us → xs[i]? = some y → ∃ u, us[i]? = some u ∧ RV S w s.hp B V y u := by
      intro xs
      induction xs with
      | nil => intro us i y _ hy; simp at hy
      | cons x xs ih =>
        intro us i y hr hy
        unfold RVs at hr
        obtain ⟨u, us', rfl, h1, h2⟩ := hr
        cases i with
        | zero => simp at hy; subst hy; exact ⟨u, rfl, h1⟩
        | succ i => simp at hy; simpa using ih us' i y h2 hy
    obtain ⟨u, hu, hrv⟩ := hat xs us i y hv hy
    exact pure_step hn hdf h (by simp [execOp, e, Instr.extract, hu]) hrv hin hK
  | alloc t => exact pre_alloc hΘ hn hdf h hp hin hK
  | box t x => exact pre_box hΘ hn hdf h hp hin hK
  | build t ps => exact pre_build hΘ hn hdf h hp hin hK
  | buildSlice t m ps => exact pre_buildSlice hΘ hn hdf h hp hin hK
  | makeSlice t l c => exact pre_make hΘ hn hdf h hp hin hK
  | load t x => exact pre_load hΘ hn hdf h hp hin hK
  | store t x y => exact pre_store hΘ hn hdf h hp hin hK
  | fieldAddr t x f => exact pre_field hΘ hn hdf h hp hin hK
  | indexAddr t x i => exact pre_index hΘ hn hdf h hp hin hK
  | makeFunc fn f c => exact pre_makeFunc hn hdf h hp hin hK
  | makeInterface t x => exact pre_makeInterface hΘ hn hdf h hp hin hK
  | call c =>
    obtain ⟨callee, ags, ts⟩ := c
    cases callee with
    | invoke r m => simp only [Pre] at hp
    | builtin b =>
      by_cases hb1 : b = .len
      · subst hb1; exact pre_len hΘ hn hdf h hp hin hK
      by_cases hb2 : b = .append
      · subst hb2; exact pre_append hΘ hn hdf h hp hin hK
      by_cases hb3 : b = .delete
      · subst hb3; exact pre_delete hΘ hn hdf h hp hin hK
      have hp' : ∃ vs r, (ags.toList.mapM fun x => conc (s.ev x)) = some vs ∧ (∀ w, (builtin b ts ty (ags.map fun | .const _ => true | _ => false) vs.toArray).run P w = .ok (.value r) w) ∧ r.oneCell' = true ∧ e = ⟨.v r, none⟩ := by
        cases b <;> first | exact hp | exact absurd rfl hb1 | exact absurd rfl hb2 | exact absurd rfl hb3
      obtain ⟨vs, r, hvs, hr, h1, rfl⟩ := hp'
      refine scal ?_ h1 rfl
      have hmap : ∀ (l : List Operand) (vs : List Value), (l.mapM fun x => conc (s.ev x)) = some vs → l.map a.eval = vs := by
        intro l
        induction l with
        | nil => intro vs hv; simp at hv; subst hv; rfl
        | cons x l ih =>
          intro vs hv
          simp only [List.mapM_cons, Option.bind_eq_bind, Option.bind_eq_some_iff, Option.pure_def, Option.some.injEq] at hv
          obtain ⟨c, hc, cs, hcs, rfl⟩ := hv
          simp only [List.map_cons, ev_conc h hc, ih cs hcs]
      have hargs : ags.map a.eval = vs.toArray := by
        apply Array.ext'
        rw [Array.toList_map, hmap _ _ hvs]
      simp only [execOp, resolve, invoke, Sem.run_bind, Sem.run_pure, Result.andThen_ok, hargs]
      exact hr w
    | value f => exact pre_call hn hdf h hp hin hK
  | makeMap t r => exact pre_makeMap hΘ hn hdf h hp hin hK
  | mapUpdate t m k v => exact pre_mapUpdate hΘ hn hdf h hp hin hK
  | lookup t m k ok => exact pre_lookup hΘ hn hdf h hp hin hK
  | _ => simp only [Pre] at hp
end
end Go.Proofs.Ytmafbodblpgcjaa.AM
