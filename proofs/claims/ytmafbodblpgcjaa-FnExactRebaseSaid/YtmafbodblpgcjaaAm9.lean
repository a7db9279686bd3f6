/- The machine over data (AmM, Am9). -/
import Derived.Test.YtmafbodblpgcjaaAm8
import Derived.MapKept
/- The machine over data: own maps with string keys. -/
namespace Go.Proofs.Ytmafbodblpgcjaa.AM
open Go Go.RowKit Go.MapKept
set_option linter.unusedVariables false
set_option linter.unusedSimpArgs false
theorem bbeq (a b : ByteArray) : (a == b) = decide (a = b) := by
  obtain ⟨x⟩ := a
  obtain ⟨y⟩ := b
  show (x == y) = decide ((⟨x⟩ : ByteArray) = ⟨y⟩)
  by_cases h : x = y
  · subst h; simp
  · simp [h]
mutual
theorem RL.free {S S' : Nat → Prop} {w w' : World} : ∀ {xs : List AV} {cs : List Value} {bs : List Value}, conc.concL xs = some bs → RL S w xs cs → RL S' w' xs cs
  | [], cs, bs, _, h => by unfold RL at h ⊢; exact h
  | .v x :: xs, cs, bs, hc, h => by
    unfold RL at h ⊢
    obtain ⟨c1, c2, e, h1, h2⟩ := h
    unfold conc.concL at hc
    cases hb : conc.concL xs with
    | none => rw [hb] at hc; cases hc
    | some b => exact ⟨c1, c2, e, by unfold RA at h1 ⊢; exact h1, RL.free hb h2⟩
  | .any :: _, _, _, hc, _ | .agg _ :: _, _, _, hc, _ | .lst _ _ :: _, _, _, hc, _ | .ptr _ :: _, _, _, hc, _ | .own _ :: _, _, _, hc, _ | .optr _ _ _ _ :: _, _, _, hc, _ | .tup _ :: _, _, _, hc, _ | .mapv _ :: _, _, _, hc, _ => by simp [conc.concL] at hc
end
theorem RV.free {S : Nat → Prop} {w : World} {hp B V} {x : AV} {u b : Value} (hc : conc x = some b) (h : RV S w hp B V x u) : ∀ S' w' hp' B' V', RV S' w' hp' B' V' x u := fun S' w' hp' B' V' => by
  cases x with
  | v x => unfold RV at h ⊢; exact h
  | agg xs =>
    unfold RV at h ⊢
    obtain ⟨cs, e, h⟩ := h
    simp only [conc, Option.map_eq_some_iff] at hc
    obtain ⟨bs, hb, _⟩ := hc
    exact ⟨cs, e, RL.free hb h⟩
  | _ => simp [conc] at hc
theorem MapR.find {q : ByteArray} : ∀ {m : List (ByteArray × AV)} {es : List MapEntry} (i : Nat), MapR m es →
    (mget m q = none ∧ Instr.findNow .string (.string q) es i = some none ∧ mdel m q = m) ∨ ∃ j e y, j < es.length ∧ mget m q = some y ∧ Instr.findNow .string (.string q) es i = some (some (i + j, e.val)) ∧ es[j]? = some e ∧ e.key = .string q ∧ (∀ S w hp B V, RV S w hp B V y e.val) ∧ MapR (mdel m q) (es.eraseIdx j)
  | [], es, i, h => by unfold MapR at h; subst h; exact .inl ⟨rfl, rfl, rfl⟩
  | (k, y) :: m, es, i, h => by
    unfold MapR at h
    obtain ⟨e, r, rfl, h1, h2, h3⟩ := h
    by_cases hk : q = k
    · subst hk
      refine .inr ⟨0, e, y, by simp, by simp [mget], ?_, rfl, h1, h2, by simp [mdel]; exact h3⟩
      simp [Instr.findNow, h1, Instr.sameNow, bbeq]
    · have hs : Instr.sameNow .string (.string q) e.key = some false := by rw [h1]; simp [Instr.sameNow, bbeq, hk]
      have hmd : mdel ((k, y) :: m) q = (k, y) :: mdel m q := by simp [mdel, hk]
      have hmg : mget ((k, y) :: m) q = mget m q := by simp [mget, hk]
      rcases MapR.find (i + 1) h3 with ⟨a1, a2, a3⟩ | ⟨j, e', y', b0, b1, b2, b3, b4, b5, b6⟩
      · exact .inl ⟨hmg.trans a1, by rw [Instr.findNow, hs]; exact a2, by rw [hmd, a3]⟩
      · refine .inr ⟨j + 1, e', y', by simp; omega, hmg.trans b1, by rw [Instr.findNow, hs]; simp only; rw [b2, Nat.add_assoc, Nat.add_comm 1 j], by simpa using b3, b4, b5, ?_⟩
        rw [hmd, List.eraseIdx_cons_succ]
        unfold MapR
        exact ⟨e, _, rfl, h1, h2, b6⟩
theorem MapR.put {q : ByteArray} {x : AV} {u : Value} (hx : ∀ S w hp B V, RV S w hp B V x u) : ∀ {m : List (ByteArray × AV)} {es : List MapEntry} (clock : Nat), MapR m es →
    (mget m q = none → MapR (mput m q x) (es ++ [{ key := .string q, val := u, born := clock }])) ∧ ∀ i j e, Instr.findNow .string (.string q) es i = some (some (i + j, e)) → MapR (mput m q x) (es.modify j fun e => { e with key := .string q, val := u })
  | [], es, clock, h => by
    unfold MapR at h; subst h
    refine ⟨fun _ => ?_, fun i j e hf => by simp [Instr.findNow] at hf⟩
    simp only [mput, List.nil_append]
    unfold MapR
    exact ⟨_, [], rfl, rfl, hx, by unfold MapR; rfl⟩
  | (k, y) :: m, es, clock, h => by
    unfold MapR at h
    obtain ⟨e, r, rfl, h1, h2, h3⟩ := h
    by_cases hk : q = k
    · subst hk
      refine ⟨fun hn => by simp [mget] at hn, fun i j e' hf => ?_⟩
      simp [Instr.findNow, h1, Instr.sameNow, bbeq] at hf
      have : j = 0 := by omega
      subst this
      simp only [mput, if_true, List.modify_zero_cons]
      unfold MapR
      exact ⟨_, r, rfl, rfl, hx, h3⟩
    · have hs : Instr.sameNow .string (.string q) e.key = some false := by rw [h1]; simp [Instr.sameNow, bbeq, hk]
      have hmp : mput ((k, y) :: m) q x = (k, y) :: mput m q x := by simp [mput, hk]
      have hmg : mget ((k, y) :: m) q = mget m q := by simp [mget, hk]
      obtain ⟨p1, p2⟩ := MapR.put hx clock h3
      rw [hmp, hmg]
      refine ⟨fun hn => ?_, fun i j e' hf => ?_⟩
      · rw [List.cons_append]; unfold MapR; exact ⟨e, _, rfl, h1, h2, p1 hn⟩
      · rw [Instr.findNow, hs] at hf
        simp only at hf
        have hj : 0 < j := by
          rcases Nat.eq_zero_or_pos j with h0 | h0
          · subst h0
            rcases MapR.find (q := q) (i + 1) h3 with ⟨_, a2, _⟩ | ⟨j', e2, y2, _, _, b2, _⟩
            · rw [a2] at hf; cases hf
            · rw [b2] at hf; simp at hf; omega
          · exact h0
        obtain ⟨j', rfl⟩ : ∃ j', j = j' + 1 := ⟨j - 1, by omega⟩
        rw [List.modify_succ_cons]
        unfold MapR
        exact ⟨e, _, rfl, h1, h2, p2 (i + 1) j' e' (by rw [hf]; congr 3; omega)⟩

section
variable {P : Program} {Θ : Tab} {W : World} {M : Option Value} {S0 : Nat → Prop} {n : Nat} {s : St} {a : Act} {w : World} {S : Nat → Prop} {B : Nat → Nat} {V : Nat → Value} {tmps : Array Value}
variable {K : Act → World → Prop} {Q : Exit → Act → World → Prop}
theorem SimW.setM (h : SimW W M S0 s tmps w S B V) {l : Nat} {ent ent' : List (ByteArray × AV)} {arr arr' : Array MapEntry} {clock clock' : Nat} (hl : s.mp l = some ent) (hb : w.heap[B l]? = some (.map arr clock)) (hR : MapR ent' arr'.toList) :
    SimW W M S0 (s.setM l ent') tmps { w with heap := w.heap.setIfInBounds (B l) (.map arr' clock') } S B V := by
  obtain ⟨a1, a2, a3, a4, a5, _⟩ := h.mps.1 l ent hl
  obtain ⟨k1, k2⟩ := heap_set (o' := .map arr' clock') hb
  have hSw : ∀ b, S b → (w.heap.setIfInBounds (B l) (.map arr' clock'))[b]? = w.heap[b]? := fun b hs => k2 b (fun e => a4 (e ▸ hs))
  have hgr : w.grownBy { w with heap := w.heap.setIfInBounds (B l) (.map arr' clock') } (some (B l)) := ⟨rfl, rfl, rfl, by simp, fun k _ hk => k2 k (fun e => hk (by rw [e]))⟩
  refine ⟨grown_trans h.below hgr (fun g e hlt => by cases e; omega), h.s0, fun b hb' => ⟨Nat.lt_of_lt_of_le (h.slt b hb').1 hgr.size, (h.slt b hb').2⟩, fun t => ?_, fun l' ob ho => ?_, h.dist, h.mine, h.pin, ?_⟩
  · exact RV.carry (fun _ h => h) hSw _ _ (fun l' ob _ ho => ⟨ob, ho, rfl, rfl, rfl⟩) (h.sl t)
  · exact (h.hp l' ob ho).carry (fun _ h => h) hSw (fun g hg => ⟨k2 g (fun e => a5 l' ob ho (by rw [hg, e])), id⟩)
  · have hat : ∀ j es, (s.setM l ent').mp j = some es → (j = l ∧ es = ent') ∨ (j ≠ l ∧ s.mp j = some es) := fun j es e => by
      by_cases hj : j = l
      · subst hj; left; exact ⟨rfl, by simpa [St.setM] using e.symm⟩
      · right; exact ⟨hj, by simpa [St.setM, nbne hj] using e⟩
    have hsome : ∀ j es, (s.setM l ent').mp j = some es → ∃ es', s.mp j = some es' := fun j es e => by
      rcases hat j es e with ⟨rfl, _⟩ | ⟨_, h2⟩
      · exact ⟨_, hl⟩
      · exact ⟨_, h2⟩
    refine ⟨fun j es e => ?_, fun j j' es es' e e' he => ?_⟩
    · rcases hat j es e with ⟨rfl, rfl⟩ | ⟨hj, e⟩
      · exact ⟨a1, a2, Nat.lt_of_lt_of_le a3 hgr.size, a4, a5, arr', clock', k1, hR⟩
      · obtain ⟨b1, b2, b3, b4, b5, arr2, clock2, b6, b7⟩ := h.mps.1 j es e
        exact ⟨b1, b2, Nat.lt_of_lt_of_le b3 hgr.size, b4, b5, arr2, clock2, (k2 _ (fun e2 => hj (h.mps.2 j l es ent e hl e2))).trans b6, b7⟩
    · obtain ⟨x, hx⟩ := hsome j es e
      obtain ⟨y, hy⟩ := hsome j' es' e'
      exact h.mps.2 j j' x y hx hy he
theorem SimW.newMap (h : SimW W M S0 s tmps w S B V) {d t : Nat} (hd0 : d ≠ 0) (hf : s.hp d = none) :
    SimW W M S0 ((s.set d (some ⟨t, 1, []⟩)).setM d []) tmps (w.alloc (.map #[] 0)) S (upd B d w.heap.size) (upd V d (.slice none 0 0)) := by
  have hb : Below w.heap.size w (w.alloc (.map #[] 0)) := (Below.refl _ _).alloc (Nat.le_refl _) _
  have h1 := (h.world hb).row (d := d) (ob := ⟨t, 1, []⟩) (g := w.heap.size) (v := .slice none 0 0) hd0 hf ⟨[], by unfold RL; rfl, fun x hx => by simp at hx, Nat.one_pos, ⟨by simp, .inl ⟨rfl, rfl⟩⟩, fun g hg => by simp [Value.ownBlock] at hg⟩ (fun g hg => by simp [Value.ownBlock] at hg) (fun l ob' g' _ _ e => by simp [Value.ownBlock] at e) (fun l es _ e => by simp [Value.ownBlock] at e)
  have hat : ∀ j es, ((s.set d (some ⟨t, 1, []⟩)).setM d []).mp j = some es → (j = d ∧ es = []) ∨ (j ≠ d ∧ (s.set d (some ⟨t, 1, []⟩)).mp j = some es ∧ s.mp j = some es) := fun j es e => by
    by_cases hj : j = d
    · subst hj; left; exact ⟨rfl, by simpa [St.setM] using e.symm⟩
    · right; exact ⟨hj, by simpa [St.setM, nbne hj] using e, by simpa [St.setM, St.set, nbne hj] using e⟩
  refine ⟨h1.below, h1.s0, h1.slt, h1.sl, h1.hp, h1.dist, h1.mine, h1.pin, fun j es e => ?_, fun j j' es es' e e' he => ?_⟩
  · rcases hat j es e with ⟨rfl, rfl⟩ | ⟨hj, e1, _⟩
    · rw [upd_same]
      refine ⟨⟨_, by simp [St.setM, St.set]; rfl⟩, h.below.size, (Array.getElem?_eq_some_iff.1 (heap_alloc w (.map #[] 0)).1).1, fun hs => absurd (h.slt _ hs).1 (by omega), fun l' ob ho => ?_, #[], 0, (heap_alloc w _).1, by simp [MapR]⟩
      by_cases hl : l' = j
      · subst hl; rw [upd_same]; simp [Value.ownBlock]
      · rw [upd_ne hl]
        intro e2
        have := ((h.hp l' ob (by simpa [St.setM, St.set, nbne hl] using ho)).lt _ e2).2
        omega
    · exact h1.mps.1 j es e1
  · rcases hat j es e with ⟨rfl, rfl⟩ | ⟨hj, e1, e2⟩
    · rcases hat j' es' e' with ⟨rfl, rfl⟩ | ⟨hj', e1', e2'⟩
      · rfl
      · rw [upd_same, upd_ne hj'] at he
        have := (h.mapLt e2').1
        omega
    · rcases hat j' es' e' with ⟨rfl, rfl⟩ | ⟨hj', e1', e2'⟩
      · rw [upd_same, upd_ne hj] at he
        have := (h.mapLt e2).1
        omega
      · exact h1.mps.2 j j' es es' e1 e1' he
theorem ev_map (h : SimW W M S0 s a.tmps w S B V) {x : Operand} {l : Nat} (hx : s.ev x = .mapv l) : a.eval x = .map (some (B l)) := by
  have hv := ev_tmp h hx (fun c => by simp)
  unfold RV at hv
  exact hv.2
theorem str_key (q : ByteArray) : IsKey .string (.string q) := by simp [IsKey]
theorem pre_makeMap (hΘ : TabOK P Θ) (hn : a.tmps.size = n) (hdf : a.defers = []) (h : SimW W M S0 s a.tmps w S B V) {dst : Option Tmp} {t : TypeId} {r : Option Operand} {ty : TypeId} {pos : String} {after : Array Edge} {guard : Option (Nat × Bool)} {e : Eff}
    (hp : Pre P Θ ⟨dst, .makeMap t r, ty, pos, after, guard⟩ s e) (hin : inN n dst = true) (hK : ∀ a' w', Sim W M S0 n (s.app dst e) a' w' → K a' w') : (⟨dst, .makeMap t r, ty, pos, after, guard⟩ : Oper).wp P a w K Q := by
  simp only [Pre] at hp
  obtain ⟨d, kt, vt, z, rfl, hf, ht, hr, rfl⟩ := hp
  have hT := hΘ t
  rw [ht] at hT
  have hrun : (Instr.makeMap t (r.map a.eval)).run P w = .ok (.map (some w.heap.size)) (w.alloc (.map #[] 0)) := by
    cases r with
    | none => rfl
    | some x =>
      obtain ⟨k, m, hx⟩ := hr x (by simp)
      simp [Instr.makeMap, run_underlying hT.1, ev_int h hx, asInt, asIntOf, Result.andThen]
  refine wp_value (v := .map (some w.heap.size)) (w1 := w.alloc (.map #[] 0)) (by simp only [execOp, Sem.run_bind, hrun, Result.andThen_ok, Sem.run_pure]) (hK _ _ (Sim.put hn hdf (h.newMap (d := d + 1) (t := t) (by omega) hf) (some d) ?_ hin))
  unfold RV
  exact ⟨⟨_, by simp [St.setM, St.set]; rfl⟩, by rw [upd_same]⟩
theorem pre_lookup (hΘ : TabOK P Θ) (hn : a.tmps.size = n) (hdf : a.defers = []) (h : SimW W M S0 s a.tmps w S B V) {dst : Option Tmp} {t : TypeId} {m k : Operand} {ok : Bool} {ty : TypeId} {pos : String} {after : Array Edge} {guard : Option (Nat × Bool)} {e : Eff}
    (hp : Pre P Θ ⟨dst, .lookup t m k ok, ty, pos, after, guard⟩ s e) (hin : inN n dst = true) (hK : ∀ a' w', Sim W M S0 n (s.app dst e) a' w' → K a' w') : (⟨dst, .lookup t m k ok, ty, pos, after, guard⟩ : Oper).wp P a w K Q := by
  simp only [Pre] at hp
  obtain ⟨l, ent, kk, kt, vt, z, ht, hm, hmp, hk, rfl⟩ := hp
  have hT := hΘ t
  rw [ht] at hT
  obtain ⟨hu, hkt, i, zv, hi, hz, hzr⟩ := hT
  obtain ⟨_, _, _, _, _, arr, clock, hb, hR⟩ := h.mps.1 l ent hmp
  have key : ∃ v, (Instr.lookup t (a.eval m) (a.eval k) ok).run P w = .ok (if ok then .tuple #[v, .bool (mget ent kk).isSome] else v) w ∧ ∀ S w hp B V, RV S w hp B V ((mget ent kk).getD z) v := by
    rw [ev_map h hm, ev_int h hk]
    rcases MapR.find (q := kk) 0 hR with ⟨f1, f2, _⟩ | ⟨j, en, y, _, f1, f2, _, _, f3, _⟩
    · refine ⟨zv, ?_, by rw [f1]; exact hzr⟩
      have hzero : (zeroValue vt).run P w = .ok zv w := by simp [zeroValue, typeInfo, run_program, hi, hz, Result.andThen]
      simp [Instr.lookup, run_underlying hu, MapKept.run_getObj_map hb, MapKept.run_checkKey hkt (str_key kk), MapKept.run_findKey hkt f2, hzero, f1, Result.andThen]
    · refine ⟨en.val, ?_, by rw [f1]; exact f3⟩
      simp [Instr.lookup, run_underlying hu, MapKept.run_getObj_map hb, MapKept.run_checkKey hkt (str_key kk), MapKept.run_findKey hkt f2, f1, Result.andThen]
  obtain ⟨v, hrun, hv⟩ := key
  refine wp_value (v := if ok then .tuple #[v, .bool (mget ent kk).isSome] else v) (w1 := w) (by simp only [execOp, Sem.run_bind, hrun, Result.andThen_ok, Sem.run_pure]) (hK _ _ (Sim.put hn hdf h dst ?_ hin))
  cases ok with
  | false => exact hv _ _ _ _ _
  | true =>
    simp only [cond_true, if_true]
    unfold RV
    refine ⟨[v, .bool (mget ent kk).isSome], rfl, ?_⟩
    unfold RVs
    refine ⟨_, _, rfl, hv _ _ _ _ _, ?_⟩
    unfold RVs
    refine ⟨_, _, rfl, by unfold RV; exact ⟨rfl, rfl⟩, by unfold RVs; rfl⟩
theorem pre_mapUpdate (hΘ : TabOK P Θ) (hn : a.tmps.size = n) (hdf : a.defers = []) (h : SimW W M S0 s a.tmps w S B V) {dst : Option Tmp} {t : TypeId} {m k x : Operand} {ty : TypeId} {pos : String} {after : Array Edge} {guard : Option (Nat × Bool)} {e : Eff}
    (hp : Pre P Θ ⟨dst, .mapUpdate t m k x, ty, pos, after, guard⟩ s e) (hin : inN n dst = true) (hK : ∀ a' w', Sim W M S0 n (s.app dst e) a' w' → K a' w') : (⟨dst, .mapUpdate t m k x, ty, pos, after, guard⟩ : Oper).wp P a w K Q := by
  simp only [Pre] at hp
  obtain ⟨l, ent, kk, b, kt, vt, z, ht, hm, hmp, hk, hx, hcs, rfl⟩ := hp
  have hT := hΘ t
  rw [ht] at hT
  obtain ⟨hu, hkt, i, zv, hi, hz, hzr⟩ := hT
  obtain ⟨_, _, _, _, _, arr, clock, hb, hR⟩ := h.mps.1 l ent hmp
  have hxv : ∀ S w hp B V, RV S w hp B V (s.ev x) b := by
    have hv := ev_rv h x hcs
    rw [ev_conc h hx] at hv
    exact RV.free hx hv
  obtain ⟨p1, p2⟩ := MapR.put (q := kk) hxv clock hR
  have key : ∃ arr' clock', (Instr.mapUpdate t (a.eval m) (a.eval k) (a.eval x)).run P w = .ok () { w with heap := w.heap.setIfInBounds (B l) (.map arr' clock') } ∧ MapR (mput ent kk (s.ev x)) arr'.toList := by
    rw [ev_map h hm, ev_int h hk, ev_conc h hx]
    rcases MapR.find (q := kk) 0 hR with ⟨f1, f2, _⟩ | ⟨j, en, y, fj, f1, f2, f4, f5, f3, _⟩
    · refine ⟨arr.push { key := .string kk, val := b, born := clock }, clock + 1, ?_, by simpa using p1 f1⟩
      simp [Instr.mapUpdate, run_underlying hu, MapKept.run_getObj_map hb, MapKept.run_checkKey hkt (str_key kk), MapKept.run_findKey hkt f2, MapKept.run_setObj_map _ hb, Result.andThen]
    · rw [Nat.zero_add] at f2
      refine ⟨arr.modify j fun e => { e with key := .string kk, val := b }, clock, ?_, ?_⟩
      · have hj : arr[j]? = some en := by simpa using f4
        simp [Instr.mapUpdate, run_underlying hu, MapKept.run_getObj_map hb, MapKept.run_checkKey hkt (str_key kk), MapKept.run_findKey hkt f2, hj, f5, MapKept.run_keyThatStays (str_key kk), MapKept.run_setObj_map _ hb, Result.andThen]
      · have := p2 0 j en.val (by rw [Nat.zero_add]; exact f2)
        simpa using this
  obtain ⟨arr', clock', hrun, hR'⟩ := key
  refine wp_skipped (w1 := { w with heap := w.heap.setIfInBounds (B l) (.map arr' clock') }) (by simp only [execOp, Sem.run_bind, hrun, Result.andThen_ok, Sem.run_pure]) (hK _ _ (Sim.put hn hdf (h.setM hmp hb hR') dst (by unfold RV; trivial) hin))
theorem pre_delete (hΘ : TabOK P Θ) (hn : a.tmps.size = n) (hdf : a.defers = []) (h : SimW W M S0 s a.tmps w S B V) {dst : Option Tmp} {ags : Array Operand} {ts : Array TypeId} {ty : TypeId} {pos : String} {after : Array Edge} {guard : Option (Nat × Bool)} {e : Eff}
    (hp : Pre P Θ ⟨dst, .call ⟨.builtin .delete, ags, ts⟩, ty, pos, after, guard⟩ s e) (hin : inN n dst = true) (hK : ∀ a' w', Sim W M S0 n (s.app dst e) a' w' → K a' w') : (⟨dst, .call ⟨.builtin .delete, ags, ts⟩, ty, pos, after, guard⟩ : Oper).wp P a w K Q := by
  simp only [Pre] at hp
  obtain ⟨x, y, t, t2, l, ent, kk, kt, vt, z, rfl, rfl, ht, hx, hmp, hy, rfl⟩ := hp
  have hT := hΘ t
  rw [ht] at hT
  obtain ⟨hu, hkt, i, zv, hi, hz, hzr⟩ := hT
  obtain ⟨_, _, _, _, _, arr, clock, hb, hR⟩ := h.mps.1 l ent hmp
  have ex := ev_map h hx
  have ey := ev_int h hy
  have key : ∃ arr', (Builtin.delete_ #[t, t2] ty #[.map (some (B l)), .string kk]).run P w = .ok (.tuple #[]) { w with heap := w.heap.setIfInBounds (B l) (.map arr' clock) } ∧ MapR (mdel ent kk) arr'.toList := by
    rcases MapR.find (q := kk) 0 hR with ⟨f1, f2, f3⟩ | ⟨j, en, y, fj, f1, f2, f4, f5, f3, f6⟩
    · refine ⟨arr, ?_, by rw [f3]; exact hR⟩
      simp [Builtin.delete_, run_underlying hu, MapKept.run_getObj_map hb, MapKept.run_checkKey hkt (str_key kk), MapKept.run_findKey hkt f2, MapKept.run_setObj_map _ hb, Result.andThen]
    · rw [Nat.zero_add] at f2
      refine ⟨arr.eraseIdxIfInBounds j, ?_, by
        have hj : j < arr.size := by simpa using fj
        rw [Array.eraseIdxIfInBounds, dif_pos hj]; simpa using f6⟩
      simp [Builtin.delete_, run_underlying hu, MapKept.run_getObj_map hb, MapKept.run_checkKey hkt (str_key kk), MapKept.run_findKey hkt f2, MapKept.run_setObj_map _ hb, Result.andThen]
  obtain ⟨arr', hrun, hR'⟩ := key
  refine wp_value (v := .tuple #[]) (w1 := { w with heap := w.heap.setIfInBounds (B l) (.map arr' clock) }) (by simp only [execOp, resolve, invoke, builtin, Sem.run_bind, Sem.run_pure, Result.andThen_ok, List.map_toArray, List.map_cons, List.map_nil, ex, ey, hrun]) (hK _ _ (Sim.put hn hdf (h.setM hmp hb hR') dst (by unfold RV; exact ⟨[], rfl, by unfold RVs; rfl⟩) hin))
end
end Go.Proofs.Ytmafbodblpgcjaa.AM
/- The machine over data: calls of functions; every step in one theorem. -/
namespace Go.Proofs.Ytmafbodblpgcjaa.AM
open Go Go.RowKit
set_option linter.unusedVariables false

section
variable {S S' : Nat → Prop} {w w' : World} {hp hp' : Nat → Option OB} {B B' : Nat → Nat} {V V' : Nat → Value}
mutual
theorem RA.flat : ∀ (x : AV) (cs : List Value), flatA x → RA S w x cs → RA S' w x cs
  | .v x, cs, _, h => by unfold RA at h ⊢; exact h
  | .agg xs, cs, hf, h => by unfold flatA at hf; unfold RA at h ⊢; exact RL.flat xs cs hf h
  | .lst sz xs, cs, hf, h => by
    unfold flatA at hf
    unfold RA at h ⊢
    obtain ⟨A, c, h1, h2, h3, h4, h4', _⟩ := h
    exact ⟨A, c, h1, h2, h3, h4, h4', .inl hf⟩
  | .any, cs, _, h => by unfold RA at h; exact h.elim
  | .ptr _, cs, _, h => by unfold RA at h; exact h.elim
  | .own _, cs, _, h => by unfold RA at h; exact h.elim
  | .optr _ _ _ _, cs, _, h => by unfold RA at h; exact h.elim
  | .tup _, cs, _, h => by unfold RA at h; exact h.elim
theorem RL.flat : ∀ (xs : List AV) (cs : List Value), flatL xs → RL S w xs cs → RL S' w xs cs
  | [], cs, _, h => by unfold RL at h ⊢; exact h
  | x :: xs, cs, hf, h => by
    unfold flatL at hf
    unfold RL at h ⊢
    obtain ⟨c1, c2, e, h1, h2⟩ := h
    exact ⟨c1, c2, e, RA.flat x c1 hf.1 h1, RL.flat xs c2 hf.2 h2⟩
end
mutual
theorem RV.flat : ∀ (x : AV) (u : Value), flatA x → RV S w hp B V x u → RV S' w hp B V x u
  | .any, u, _, h => by unfold RV at h ⊢; trivial
  | .v x, u, _, h => by unfold RV at h ⊢; exact h
  | .agg xs, u, hf, h => by
    unfold flatA at hf
    unfold RV at h ⊢
    obtain ⟨cs, e, h⟩ := h
    exact ⟨cs, e, RL.flat xs cs hf h⟩
  | .lst sz xs, u, hf, h => by unfold RV at h ⊢; exact RA.flat _ _ hf h
  | .ptr x, u, hf, h => by unfold flatA at hf; exact hf.elim
  | .own l, u, _, h => by unfold RV at h ⊢; exact h
  | .optr l i _ c, u, hf, h => by unfold flatA at hf; exact hf.elim
  | .tup xs, u, hf, h => by
    unfold flatA at hf
    unfold RV at h ⊢
    obtain ⟨us, e, h⟩ := h
    exact ⟨us, e, RVs.flat xs us hf h⟩
theorem RVs.flat : ∀ (xs : List AV) (us : List Value), flatL xs → RVs S w hp B V xs us → RVs S' w hp B V xs us
  | [], us, _, h => by unfold RVs at h ⊢; exact h
  | x :: xs, us, hf, h => by
    unfold flatL at hf
    unfold RVs at h ⊢
    obtain ⟨u, us', e, h1, h2⟩ := h
    exact ⟨u, us', e, RV.flat x u hf.1 h1, RVs.flat xs us' hf.2 h2⟩
end
mutual
theorem RV.ren {d : Nat} (hh : ∀ k ob, hp k = some ob → hp' (d + 1000 * k) = some ob ∧ V' (d + 1000 * k) = V k) : ∀ (x : AV) (u : Value), RV S w hp B V x u → RV S w hp' B' V' (ren d x) u
  | .any, u, h => by simp only [AM.ren]; unfold RV; trivial
  | .v x, u, h => by simp only [AM.ren]; unfold RV at h ⊢; exact h
  | .agg xs, u, h => by simp only [AM.ren]; unfold RV at h ⊢; exact h
  | .lst sz xs, u, h => by simp only [AM.ren]; unfold RV at h ⊢; exact h
  | .ptr x, u, h => by simp only [AM.ren]; unfold RV at h ⊢; exact h
  | .own l, u, h => by
    simp only [AM.ren]
    unfold RV at h ⊢
    obtain ⟨⟨ob, ho⟩, e⟩ := h
    exact ⟨⟨ob, (hh l ob ho).1⟩, e.trans (hh l ob ho).2.symm⟩
  | .optr _ i _ c, u, h => by simp only [AM.ren]; unfold RV; trivial
  | .mapv _, u, h => by simp only [AM.ren]; unfold RV; trivial
  | .tup xs, u, h => by
    simp only [AM.ren]
    unfold RV at h ⊢
    obtain ⟨us, e, h⟩ := h
    exact ⟨us, e, RVs.ren hh xs us h⟩
theorem RVs.ren {d : Nat} (hh : ∀ k ob, hp k = some ob → hp' (d + 1000 * k) = some ob ∧ V' (d + 1000 * k) = V k) : ∀ (xs : List AV) (us : List Value), RVs S w hp B V xs us → RVs S w hp' B' V' (renL d xs) us
  | [], us, h => by simp only [AM.renL]; unfold RVs at h ⊢; exact h
  | x :: xs, us, h => by
    simp only [AM.renL]
    unfold RVs at h ⊢
    obtain ⟨u, us', e, h1, h2⟩ := h
    exact ⟨u, us', e, RV.ren hh x u h1, RVs.ren hh xs us' h2⟩
end
end

section
variable {P : Program} {Θ : Tab} {W : World} {M : Option Value} {S0 : Nat → Prop} {n : Nat} {s : St} {a : Act} {w : World} {S : Nat → Prop} {B : Nat → Nat} {V : Nat → Value} {tmps : Array Value}
variable {K : Act → World → Prop} {Q : Exit → Act → World → Prop}

/-- more may be read -/
theorem SimW.more (h : SimW W M S0 s tmps w S B V) {S' : Nat → Prop} (hm : ∀ b, S b → S' b) (hs : ∀ b, S' b → b < w.heap.size ∧ (S0 b ∨ W.heap.size ≤ b ∨ mb M = some b)) (hd : ∀ l ob g, s.hp l = some ob → (V l).ownBlock = some g → ¬ S' g) (hdM : ∀ l es, s.mp l = some es → ¬ S' (B l)) : SimW W M S0 s tmps w S' B V :=
  ⟨h.below, fun b hb => hm b (h.s0 b hb), hs, fun t => RV.carry hm (fun _ _ => rfl) _ _ (fun l ob _ ho => ⟨ob, ho, rfl, rfl, rfl⟩) (h.sl t),
    fun l ob ho => (h.hp l ob ho).carry hm (fun _ _ => rfl) (fun g hg => ⟨rfl, fun _ => hd l ob g ho hg⟩), h.dist, h.mine, h.pin, h.mps.carry (fun _ _ e => e) (fun _ _ _ h => h) (fun _ _ _ => rfl) (fun l es e a3 a4 a5 _ => ⟨rfl, a3, hdM l es e, a5⟩)⟩

theorem setObs_sim {d : Nat} (hd0 : d ≠ 0) {B2 : Nat → Nat} {V2 : Nat → Value} : ∀ (obs : List OB) (k : Nat) {s : St} {B : Nat → Nat} {V : Nat → Value}, SimW W M S0 s tmps w S B V → freeObs s d k obs →
    (∀ i ob, obs[i]? = some ob → RO S w 0 ob (B2 (k + i)) (V2 (k + i)) ∧ ∀ g, (V2 (k + i)).ownBlock = some g → W.heap.size ≤ g ∨ mb M = some g) → (∀ i j o1 o2 g, obs[i]? = some o1 → obs[j]? = some o2 → (V2 (k + i)).ownBlock = some g → (V2 (k + j)).ownBlock = some g → i = j) →
    (∀ l ob g i ob', s.hp l = some ob → (V l).ownBlock = some g → obs[i]? = some ob' → (V2 (k + i)).ownBlock ≠ some g) → (∀ l es i ob', s.mp l = some es → obs[i]? = some ob' → (V2 (k + i)).ownBlock ≠ some (B l)) →
    ∃ B' V', SimW W M S0 (setObs d k obs s) tmps w S B' V' ∧ (∀ i ob, obs[i]? = some ob → (setObs d k obs s).hp (d + 1000 * (k + i)) = some ob ∧ V' (d + 1000 * (k + i)) = V2 (k + i)) ∧
      (∀ l, (∀ i, l = d + 1000 * (k + i) → obs.length ≤ i) → (setObs d k obs s).hp l = s.hp l ∧ V' l = V l)
  | [], k, s, B, V, h, _, _, _, _, _ => ⟨B, V, h, by simp, fun _ _ => ⟨rfl, rfl⟩⟩
  | ob :: obs, k, s, B, V, h, hf, hr, hd, hfar, hfarM => by
    have h1 := h.row (by omega) hf.1 (hr 0 ob rfl).1 (hr 0 ob rfl).2 (fun l ob' g' ho e => hfar l ob' g' 0 ob ho e rfl) (fun l es e => hfarM l es 0 ob e rfl)
    simp only [Nat.add_zero] at h1
    have hother : ∀ l, l ≠ d + 1000 * k → (s.set (d + 1000 * k) (some ob)).hp l = s.hp l := fun l hl => by simp [St.set, nbne hl]
    have hfree : ∀ (o : List OB) (j : Nat), k < j → freeObs s d j o → freeObs (s.set (d + 1000 * k) (some ob)) d j o := by
      intro o
      induction o with
      | nil => intro j _ _; trivial
      | cons x o ih => intro j hj hq; exact ⟨by rw [hother _ (by omega)]; exact hq.1, ih (j + 1) (by omega) hq.2⟩
    obtain ⟨B', V', k1, k2, k3⟩ := setObs_sim hd0 obs (k + 1) h1 (hfree obs (k + 1) (by omega) hf.2)
      (fun i o ho => by have := hr (i + 1) o (by simpa using ho); rwa [show k + (i + 1) = k + 1 + i from by omega] at this)
      (fun i j o1 o2 g e1 e2 e3 e4 => by
        have := hd (i + 1) (j + 1) o1 o2 g (by simpa using e1) (by simpa using e2) (by rwa [show k + (i + 1) = k + 1 + i from by omega]) (by rwa [show k + (j + 1) = k + 1 + j from by omega])
        omega)
      (fun l ob2 g i ob' ho e1 e2 e3 => by
        by_cases hl : l = d + 1000 * k
        · subst hl
          rw [upd_same] at e1
          have := hd 0 (i + 1) ob ob' g rfl (by simpa using e2) (by simpa using e1) (by rwa [show k + (i + 1) = k + 1 + i from by omega])
          omega
        · rw [hother l hl] at ho
          rw [upd_ne hl] at e1
          exact hfar l ob2 g (i + 1) ob' ho e1 (by simpa using e2) (by rwa [show k + (i + 1) = k + 1 + i from by omega]))
      (fun l es i ob' e e2 e3 => by
        have hl : l ≠ d + 1000 * k := fun hl => by subst hl; simp [St.set] at e
        rw [upd_ne hl] at e3
        exact hfarM l es (i + 1) ob' (by simpa [St.set, nbne hl] using e) (by simpa using e2) (by rwa [show k + (i + 1) = k + 1 + i from by omega]))
    refine ⟨B', V', k1, fun i o ho => ?_, fun l hl => ?_⟩
    · cases i with
      | zero =>
        simp at ho; subst ho
        obtain ⟨q1, q2⟩ := k3 (d + 1000 * k) (fun i hi => by omega)
        simp only [Nat.add_zero]
        exact ⟨q1.trans (by simp [St.set]), q2.trans upd_same⟩
      | succ i =>
        have := k2 i o (by simpa using ho)
        rwa [show k + 1 + i = k + (i + 1) from by omega] at this
    · have hne : l ≠ d + 1000 * k := fun e => by have := hl 0 (by simpa using e); simp at this
      obtain ⟨q1, q2⟩ := k3 l (fun i hi => by have := hl (i + 1) (by rw [hi]; congr 2; omega); simp at this; omega)
      exact ⟨q1.trans (hother l hne), q2.trans (upd_ne hne)⟩

theorem args_rv {ls : List Nat} (h : SimW W M S0 s a.tmps w S B V) {S' : Nat → Prop} (hm : ∀ b, S b → S' b) (ho : ∀ l ob g, s.hp l = some ob → (V l).ownBlock = some g → l ∈ ls → S' g) : ∀ (xs : List Operand), (∀ l ∈ ownsOf s xs, l ∈ ls) → argsOK s xs = true → (∀ x ∈ xs, ∀ k, x = .const k → k.oneCell' = true) →
    RVs S' w (fun _ => none) (fun _ => 0) (fun _ => undef) (xs.map fun x => s.dat (s.ev x)) (xs.map a.eval)
  | [], _, _, _ => by show RVs _ _ _ _ _ [] []; unfold RVs; rfl
  | x :: xs, hls, hok, hc => by
    simp only [argsOK, Bool.and_eq_true] at hok
    simp only [List.map_cons]
    unfold RVs
    refine ⟨_, _, rfl, ?_, args_rv h hm ho xs (fun l hl => hls l (by unfold ownsOf; cases s.ev x <;> simp [hl])) hok.2 (fun y hy => hc y (List.mem_cons_of_mem _ hy))⟩
    have hx := ev_rv h x (hc x (by simp))
    have hk := hok.1
    cases he : s.ev x with
    | own l =>
      rw [he] at hx
      unfold RV at hx
      obtain ⟨⟨ob, hob⟩, e⟩ := hx
      have hro := h.hp l ob hob
      show RV _ _ _ _ _ (match s.hp l with | some ob => .lst ob.sz ob.xs | none => .any) _
      rw [hob, e]
      unfold RV
      refine RA.mono ?_ (fun _ _ => rfl) _ _ hro.list
      intro g hg
      rcases hg with hg | hg
      · exact hm g hg
      · exact ho l ob g hob hg (hls l (by unfold ownsOf; rw [he]; simp))
    | v c => rw [he] at hx; exact RV.carry hm (fun _ _ => rfl) _ _ (fun l ob hn _ => by simp [St.dat, AV.names] at hn) hx
    | any => show RV _ _ _ _ _ .any _; unfold RV; trivial
    | agg ys => rw [he] at hx; exact RV.carry hm (fun _ _ => rfl) _ _ (fun l ob hn _ => by simp [St.dat, AV.names] at hn) hx
    | lst sz ys => rw [he] at hx; exact RV.carry hm (fun _ _ => rfl) _ _ (fun l ob hn _ => by simp [St.dat, AV.names] at hn) hx
    | ptr y => rw [he] at hx; exact RV.carry hm (fun _ _ => rfl) _ _ (fun l ob hn _ => by simp [St.dat, AV.names] at hn) hx
    | optr l i p c => rw [he] at hk; simp [isArgA] at hk
    | tup ys => rw [he] at hk; simp [isArgA] at hk
    | mapv l => rw [he] at hk; simp [isArgA] at hk

/-- the arguments, the rows among them given up -/
theorem args_rv2 {ls : List Nat} (h : SimW W M S0 s a.tmps w S B V) {S' : Nat → Prop} (hm : ∀ b, S b → S' b) (hr : ∀ l ∈ ls, ∀ ob, s.hp l = some ob → RA S' w (.lst ob.sz ob.xs) [V l]) : ∀ (xs : List Operand), (∀ l ∈ ownsOf s xs, l ∈ ls) → argsOK s xs = true → (∀ x ∈ xs, ∀ k, x = .const k → k.oneCell' = true) →
    RVs S' w (fun _ => none) (fun _ => 0) (fun _ => undef) (xs.map fun x => s.dat (s.ev x)) (xs.map a.eval)
  | [], _, _, _ => by show RVs _ _ _ _ _ [] []; unfold RVs; rfl
  | x :: xs, hls, hok, hc => by
    simp only [argsOK, Bool.and_eq_true] at hok
    simp only [List.map_cons]
    unfold RVs
    refine ⟨_, _, rfl, ?_, args_rv2 h hm hr xs (fun l hl => hls l (by unfold ownsOf; cases s.ev x <;> simp [hl])) hok.2 (fun y hy => hc y (List.mem_cons_of_mem _ hy))⟩
    have hx := ev_rv h x (hc x (by simp))
    have hk := hok.1
    cases he : s.ev x with
    | own l =>
      rw [he] at hx
      unfold RV at hx
      obtain ⟨⟨ob, hob⟩, e⟩ := hx
      show RV _ _ _ _ _ (match s.hp l with | some ob => .lst ob.sz ob.xs | none => .any) _
      rw [hob, e]
      unfold RV
      exact hr l (hls l (by unfold ownsOf; rw [he]; simp)) ob hob
    | v c => rw [he] at hx; exact RV.carry hm (fun _ _ => rfl) _ _ (fun l ob hn _ => by simp [St.dat, AV.names] at hn) hx
    | any => show RV _ _ _ _ _ .any _; unfold RV; trivial
    | agg ys => rw [he] at hx; exact RV.carry hm (fun _ _ => rfl) _ _ (fun l ob hn _ => by simp [St.dat, AV.names] at hn) hx
    | lst sz ys => rw [he] at hx; exact RV.carry hm (fun _ _ => rfl) _ _ (fun l ob hn _ => by simp [St.dat, AV.names] at hn) hx
    | ptr y => rw [he] at hx; exact RV.carry hm (fun _ _ => rfl) _ _ (fun l ob hn _ => by simp [St.dat, AV.names] at hn) hx
    | optr l i p c => rw [he] at hk; simp [isArgA] at hk
    | tup ys => rw [he] at hk; simp [isArgA] at hk
    | mapv l => rw [he] at hk; simp [isArgA] at hk
theorem freeObs_frz {s : St} {ls : List Nat} (hd : ∀ d, s.hp d = none → (frzL ls s).hp d = none) (d : Nat) : ∀ (obs : List OB) (k : Nat), freeObs s d k obs → freeObs (frzL ls s) d k obs
  | [], _, _ => trivial
  | ob :: r, k, h => ⟨hd _ h.1, freeObs_frz hd d r (k + 1) h.2⟩

theorem pre_call (hn : a.tmps.size = n) (hdf : a.defers = []) (h : SimW W M S0 s a.tmps w S B V) {dst : Option Tmp} {f : FuncId} {ags : Array Operand} {ts : Array TypeId} {ty : TypeId} {pos : String} {after : Array Edge} {guard : Option (Nat × Bool)} {e : Eff}
    (hp : Pre P Θ ⟨dst, .call ⟨.value (.func f), ags, ts⟩, ty, pos, after, guard⟩ s e) (hin : inN n dst = true) (hK : ∀ a' w', Sim W M S0 n (s.app dst e) a' w' → K a' w') : (⟨dst, .call ⟨.value (.func f), ags, ts⟩, ty, pos, after, guard⟩ : Oper).wp P a w K Q := by
  simp only [Pre] at hp
  have hrun0 : (∀ vs w, (callFunc f vs).run P w = .ok (.enter f vs) w) → (execOp a.eval ⟨dst, .call ⟨.value (.func f), ags, ts⟩, ty, pos, after, guard⟩).run P w = .ok (.enter f (ags.map a.eval)) w := fun hent => by
    simp only [execOp, resolve, Act.eval, Deferred.ofValue, invoke, Sem.run_bind, Sem.run_pure, Result.andThen_ok, Array.append_empty, Array.empty_append, hent]
  rcases hp with hp | ⟨x, r, l, ob, xs', u, hag, hx, ho, ⟨hent, hac⟩, how, hok, hcs, h1, rfl⟩ | ⟨d, out, rfl, ⟨hent, hac⟩, hfree, hok, hcs, rfl⟩
  case inr.inr =>
    unfold Oper.wp
    rw [hrun0 hent]
    show Calls P f (ags.map a.eval) w _
    have hvs : (ags.map a.eval) = (ags.toList.map a.eval).toArray := by rw [← Array.toList_map, Array.toArray_toList]
    rw [hvs]
    obtain ⟨Sf, mf, hF, rf, df, _⟩ := frzL_sim (ownsOf s ags.toList) h
    have hargs := args_rv2 h mf rf ags.toList (fun l hl => hl) hok hcs
    have hfree' := freeObs_frz df (d + 1) out.obs 0 hfree
    refine (hac w Sf _ (fun b hb => (hF.slt b hb).1) hargs).mono ?_
    rintro e' w' ⟨v, S1, B2, V2, rfl, hbel, m1, hs1, hrv, hro, hdist⟩
    show K (a.put (some d) v) w'
    have hlt : ∀ l ob g, (frzL (ownsOf s ags.toList) s).hp l = some ob → (V l).ownBlock = some g → g < w.heap.size ∧ ¬ Sf g := fun l ob g ho hg => by
      obtain ⟨cs, _, _, _, _, r5⟩ := hF.hp l ob ho
      exact ⟨((hF.hp l ob ho).lt g hg).2, (r5 g hg).2⟩
    have hsim := (hF.world hbel).more m1 (fun b hb => ⟨(hs1 b hb).1, by
      rcases (hs1 b hb).2 with hb' | hb'
      · exact (hF.slt b hb').2
      · exact .inr (.inl (Nat.le_trans hF.below.size hb'))⟩) (fun l ob g ho hg hs => by
      obtain ⟨k2, k3⟩ := hlt l ob g ho hg
      rcases (hs1 g hs).2 with hb' | hb'
      · exact k3 hb'
      · omega) (fun l es e hs => by
      obtain ⟨k2, k3⟩ := hF.mapLt e
      rcases (hs1 _ hs).2 with hb' | hb'
      · exact k3 hb'
      · omega)
    have hro' : ∀ i ob, out.obs[i]? = some ob → RO S1 w' 0 ob (B2 (0 + i)) (V2 (0 + i)) ∧ ∀ g, (V2 (0 + i)).ownBlock = some g → W.heap.size ≤ g ∨ mb M = some g := fun i ob ho => by
      rw [Nat.zero_add]
      refine ⟨?_, fun g hg => .inl (Nat.le_trans hF.below.size ((hro i ob ho).lt g hg).1)⟩
      obtain ⟨cs, r1, r2, r3, r4, r5⟩ := hro i ob ho
      refine ⟨cs, r1, r2, r3, ⟨r4.1, ?_⟩, r5⟩
      rcases r4.2 with h1 | ⟨g, cap, cur, e1, e2, e3⟩
      · exact .inl h1
      · exact .inr ⟨g, cap, cur, e1, Nat.zero_le _, e3⟩
    obtain ⟨B', V', k1, k2, k3⟩ := setObs_sim (d := d + 1) (Nat.succ_ne_zero d) (B2 := B2) (V2 := V2) out.obs 0 hsim hfree' hro'
      (fun i j o1 o2 g e1 e2 e3 e4 => by rw [Nat.zero_add] at e3 e4; exact hdist i j o1 o2 g e1 e2 e3 e4)
      (fun l ob g i ob' ho e1 e2 e3 => by
        rw [Nat.zero_add] at e3
        have := ((hro i ob' e2).lt g e3).1
        have := (hlt l ob g ho e1).1
        omega)
      (fun l es i ob' e e2 e3 => by
        rw [Nat.zero_add] at e3
        have := ((hro i ob' e2).lt _ e3).1
        have := (hF.mapLt e).1
        omega)
    have hrv' : RV S1 w' (setObs (d + 1) 0 out.obs (frzL (ownsOf s ags.toList) s)).hp B' V' (ren (d + 1) out.val) v := RV.ren (fun k ob ho => by have := k2 k ob ho; rwa [Nat.zero_add] at this) _ _ hrv
    exact hK _ _ (Sim.put hn hdf k1 (some d) hrv' hin)
  case inr.inl =>
    unfold Oper.wp
    rw [hrun0 hent]
    show Calls P f (ags.map a.eval) w _
    have hvs : (ags.map a.eval) = (a.eval x :: r.map a.eval).toArray := by
      have : (ags.map a.eval).toList = a.eval x :: r.map a.eval := by rw [Array.toList_map, hag]; rfl
      rw [← this, Array.toArray_toList]
    have hv := ev_tmp h hx (fun c => by simp)
    unfold RV at hv
    have hro := h.hp l ob ho
    have hown0 : ownsOf s r = [] := by simpa using how
    have hargs := args_rv (ls := []) h (fun _ hb => hb) (fun l ob g _ _ hl => by simp at hl) r (fun l hl => by rw [hown0] at hl; exact hl) hok hcs
    rw [hvs, hv.2]
    refine (hac w S (B l) (V l) _ (fun b hb => (h.slt b hb).1) hro hargs).mono ?_
    rintro e' w' ⟨rfl, hgr, hro'⟩
    show K (a.put dst u) w'
    have hnS : ∀ g, (V l).ownBlock = some g → ¬ S g := by obtain ⟨_, _, _, _, _, r5⟩ := hro; exact fun g hg => (r5 g hg).2
    have hw : ∀ b, S b → w'.heap[b]? = w.heap[b]? := fun b hb => hgr.block b (h.slt b hb).1 (fun e => hnS b e.symm hb)
    refine hK _ _ (Sim.put (s := s.set l (some ⟨ob.e, ob.sz, xs'⟩)) (B := B) (V := V) (S := S) hn hdf ⟨grown_trans h.below hgr (fun g e hlt => (h.mine l ob g ho e).resolve_left (by omega)), h.s0, fun b hb => ⟨Nat.lt_of_lt_of_le (h.slt b hb).1 hgr.size, (h.slt b hb).2⟩, fun t => ?_, fun l' ob' ho' => ?_, fun l1 l2 o1 o2 g h1 h2 => ?_, fun l1 o1 g h1 => ?_, h.pin, h.mps_upd (fun _ _ => rfl) (fun _ _ => rfl) hgr.size (fun g hg hp => hgr.block g hg (fun e => hp l ob ho e.symm)) (fun g hg hs _ => hs) (fun g hg hp => hp l ob ho)⟩ dst (one_list h1) hin)
    · refine RV.carry (fun _ h => h) hw _ _ (fun l' ob' _ ho' => ?_) (h.sl t)
      by_cases e : l' = l
      · subst e
        rw [ho] at ho'; cases ho'
        exact ⟨⟨ob.e, ob.sz, xs'⟩, by simp [St.set], rfl, rfl, rfl⟩
      · exact ⟨ob', by simp [St.set, nbne e, ho'], rfl, rfl, rfl⟩
    · by_cases e : l' = l
      · subst e
        have : ob' = ⟨ob.e, ob.sz, xs'⟩ := by simpa [St.set] using ho'.symm
        subst this
        exact hro'
      · have ho2 : s.hp l' = some ob' := by simpa [St.set, nbne e] using ho'
        exact (h.hp l' ob' ho2).carry (fun _ h => h) hw (fun g hg => ⟨hgr.block g ((h.hp l' ob' ho2).lt g hg).2 (fun e' => e (h.dist l' l ob' ob g ho2 ho hg e'.symm)), id⟩)
    · have q1 : ∃ o, s.hp l1 = some o := by
        by_cases e : l1 = l
        · subst e; exact ⟨ob, ho⟩
        · exact ⟨o1, by simpa [St.set, nbne e] using h1⟩
      have q2 : ∃ o, s.hp l2 = some o := by
        by_cases e : l2 = l
        · subst e; exact ⟨ob, ho⟩
        · exact ⟨o2, by simpa [St.set, nbne e] using h2⟩
      obtain ⟨p1, q1⟩ := q1
      obtain ⟨p2, q2⟩ := q2
      exact h.dist l1 l2 p1 p2 g q1 q2
    · by_cases e : l1 = l
      · subst e; exact h.mine l1 ob g ho
      · exact h.mine l1 o1 g (by simpa [St.set, nbne e] using h1)
  obtain ⟨d, out, rfl, ⟨hent, hac⟩, hfl, hfree, hok, hcs, rfl⟩ := hp
  have hrun : (execOp a.eval ⟨some d, .call ⟨.value (.func f), ags, ts⟩, ty, pos, after, guard⟩).run P w = .ok (.enter f (ags.map a.eval)) w := by
    simp only [execOp, resolve, Act.eval, Deferred.ofValue, invoke, Sem.run_bind, Sem.run_pure, Result.andThen_ok, Array.append_empty, Array.empty_append, hent]
  unfold Oper.wp
  rw [hrun]
  show Calls P f (ags.map a.eval) w _
  have hlt : ∀ l ob g, s.hp l = some ob → (V l).ownBlock = some g → True ∧ g < w.heap.size ∧ ¬ S g := fun l ob g ho hg => by
    obtain ⟨cs, _, _, _, _, r5⟩ := h.hp l ob ho
    exact ⟨trivial, ((h.hp l ob ho).lt g hg).2, (r5 g hg).2⟩
  have hvs : (ags.map a.eval) = (ags.toList.map a.eval).toArray := by rw [← Array.toList_map, Array.toArray_toList]
  rw [hvs]
  -- what may be read by the callee
  obtain ⟨Sc, hSc, hScl, hcase⟩ : ∃ Sc : Nat → Prop, (∀ b, S b → Sc b) ∧ (∀ b, Sc b → b < w.heap.size) ∧ (((∀ b, Sc b → S b) ∧ ∀ l ∈ ownsOf s ags.toList, False) ∨ (out.flat ∧ ∀ l ob g, s.hp l = some ob → (V l).ownBlock = some g → Sc g)) := by
    rcases hfl with hfl | hfl
    · have : ownsOf s ags.toList = [] := by simpa using hfl
      exact ⟨S, fun _ h => h, fun b hb => (h.slt b hb).1, .inl ⟨fun _ h => h, by rw [this]; simp⟩⟩
    · refine ⟨fun b => S b ∨ ∃ l ob, s.hp l = some ob ∧ (V l).ownBlock = some b, fun _ h => .inl h, fun b hb => ?_, .inr ⟨hfl, fun l ob g ho hg => .inr ⟨l, ob, ho, hg⟩⟩⟩
      rcases hb with hb | ⟨l, ob, ho, hg⟩
      · exact (h.slt b hb).1
      · exact (hlt l ob b ho hg).2.1
  have hargs := args_rv (ls := ownsOf s ags.toList) h hSc (fun l ob g ho hg hl => by
    rcases hcase with ⟨_, hno⟩ | ⟨_, hall⟩
    · exact (hno l hl).elim
    · exact hall l ob g ho hg) ags.toList (fun l hl => hl) hok hcs
  refine (hac w Sc _ hScl hargs).mono ?_
  rintro e' w' ⟨v, S1, B2, V2, rfl, hbel, m1, hs1, hrv, hro, hdist⟩
  show K (a.put (some d) v) w'
  -- what may be read from now on
  obtain ⟨S2, q1, q2, q3, q4, q5⟩ : ∃ S2 : Nat → Prop, (∀ b, S b → S2 b) ∧ (∀ b, S2 b → b < w'.heap.size ∧ (S b ∨ w.heap.size ≤ b)) ∧ RV S2 w' (obsF out.obs) B2 V2 out.val v ∧ (∀ l ob, obsF out.obs l = some ob → RO S2 w' w.heap.size ob (B2 l) (V2 l)) ∧ (∀ b, S2 b → w.heap.size ≤ b → S1 b) := by
    rcases hcase with ⟨hsub, _⟩ | ⟨hflat, _⟩
    · exact ⟨S1, fun b hb => m1 b (hSc b hb), fun b hb => ⟨(hs1 b hb).1, (hs1 b hb).2.imp (hsub b) id⟩, hrv, hro, fun _ h _ => h⟩
    · refine ⟨fun b => S b ∨ (w.heap.size ≤ b ∧ S1 b), fun b hb => .inl hb, fun b hb => ?_, RV.flat _ _ hflat.1 hrv, fun l ob ho => ?_, fun b hb hle => ?_⟩
      · rcases hb with hb | hb
        · exact ⟨Nat.lt_of_lt_of_le (h.slt b hb).1 hbel.size, .inl hb⟩
        · exact ⟨(hs1 b hb.2).1, .inr hb.1⟩
      · obtain ⟨cs, r1, r2, r3, r4, r5⟩ := hro l ob ho
        refine ⟨cs, RL.flat _ _ (hflat.2 ob (List.mem_of_getElem? ho)) r1, r2, r3, r4, fun g hg => ⟨(r5 g hg).1, fun hs => ?_⟩⟩
        rcases hs with hs | hs
        · have := (RO.lt (hro l ob ho) g hg).1
          exact absurd (h.slt g hs).1 (by omega)
        · exact (r5 g hg).2 hs.2
      · rcases hb with hb | hb
        · exact absurd (h.slt b hb).1 (by omega)
        · exact hb.2
  have hsim := (h.world hbel).more q1 (fun b hb => ⟨(q2 b hb).1, by
    rcases (q2 b hb).2 with hb' | hb'
    · exact (h.slt b hb').2
    · exact .inr (.inl (Nat.le_trans h.below.size hb'))⟩) (fun l ob g ho hg hs => by
    obtain ⟨_, k2, k3⟩ := hlt l ob g ho hg
    rcases (q2 g hs).2 with hb' | hb'
    · exact k3 hb'
    · omega) (fun l es e hs => by
    obtain ⟨k2, k3⟩ := h.mapLt e
    rcases (q2 _ hs).2 with hb' | hb'
    · exact k3 hb'
    · omega)
  have hro' : ∀ i ob, out.obs[i]? = some ob → RO S2 w' 0 ob (B2 (0 + i)) (V2 (0 + i)) ∧ ∀ g, (V2 (0 + i)).ownBlock = some g → W.heap.size ≤ g ∨ mb M = some g := fun i ob ho => by
    rw [Nat.zero_add]
    refine ⟨?_, fun g hg => .inl (Nat.le_trans h.below.size ((q4 i ob ho).lt g hg).1)⟩
    obtain ⟨cs, r1, r2, r3, r4, r5⟩ := q4 i ob ho
    refine ⟨cs, r1, r2, r3, ⟨r4.1, ?_⟩, r5⟩
    rcases r4.2 with h1 | ⟨g, cap, cur, e1, e2, e3⟩
    · exact .inl h1
    · exact .inr ⟨g, cap, cur, e1, Nat.zero_le _, e3⟩
  obtain ⟨B', V', k1, k2, k3⟩ := setObs_sim (d := d + 1) (Nat.succ_ne_zero d) (B2 := B2) (V2 := V2) out.obs 0 hsim hfree hro'
    (fun i j o1 o2 g e1 e2 e3 e4 => by rw [Nat.zero_add] at e3 e4; exact hdist i j o1 o2 g e1 e2 e3 e4)
    (fun l ob g i ob' ho e1 e2 e3 => by
      rw [Nat.zero_add] at e3
      have := ((q4 i ob' e2).lt g e3).1
      have := (hlt l ob g ho e1).2.1
      omega)
    (fun l es i ob' e e2 e3 => by
      rw [Nat.zero_add] at e3
      have := ((q4 i ob' e2).lt _ e3).1
      have := (h.mapLt e).1
      omega)
  have hrv' : RV S2 w' (setObs (d + 1) 0 out.obs s).hp B' V' (ren (d + 1) out.val) v := RV.ren (fun k ob ho => by have := k2 k ob ho; rwa [Nat.zero_add] at this) _ _ q3
  refine hK _ _ ?_
  have heq : s.app (some d) ⟨ren (d + 1) out.val, setU (d + 1) out.obs⟩ = (setObs (d + 1) 0 out.obs s).put (some d) (ren (d + 1) out.val) := by
    unfold St.app setU
    cases out.obs <;> rfl
  rw [heq]
  exact Sim.put hn hdf k1 (some d) hrv' hin

theorem pre_sound (hΘ : TabOK P Θ) {o : Oper} {e : Eff} (hs : Sim W M S0 n s a w) (hp : Pre P Θ o s e) (hin : inN n o.dst = true) (hK : ∀ a' w', Sim W M S0 n (s.app o.dst e) a' w' → K a' w') : o.wp P a w K Q := by
  obtain ⟨hn, hdf, S, B, V, h⟩ := hs
  obtain ⟨dst, op, ty, pos, after, guard⟩ := o
  have scal : ∀ {r : Value}, (execOp a.eval ⟨dst, op, ty, pos, after, guard⟩).run P w = .ok (.value r) w → r.oneCell' = true → e = ⟨.v r, none⟩ → (⟨dst, op, ty, pos, after, guard⟩ : Oper).wp P a w K Q := fun {r} hr h1 he => by
    subst he; exact pure_step hn hdf h hr (one_list h1) hin hK
  cases op with
  | move x =>
    simp only [Pre] at hp
    obtain ⟨hc, rfl | ⟨l, ob, hx, ho, rfl⟩ | ⟨d, el, sz, hd, h0, rfl, rfl⟩ | ⟨l, L, ob, hx, ho, hL, hne, rfl⟩⟩ := hp
    · exact pure_step hn hdf h (by simp only [execOp, Sem.run_pure]) (ev_rv h x hc) hin hK
    · have hv := ev_tmp h hx (fun c => by simp)
      unfold RV at hv
      obtain ⟨S', m, h', r⟩ := h.frz l
      refine wp_value (v := a.eval x) (w1 := w) (by simp only [execOp, Sem.run_pure]) (hK _ _ (Sim.put hn hdf h' dst ?_ hin))
      rw [hv.2]; unfold RV; exact r ob ho
    · refine wp_value (v := .slice none 0 0) (w1 := w) (by simp only [execOp, Sem.run_pure]; rfl) (hK _ _ (Sim.put hn hdf (h.nilrow (d := d + 1) (el := el) (by omega) h0) dst ?_ hin))
      unfold RV; exact ⟨⟨_, by simp [St.set]; rfl⟩, upd_same.symm⟩
    · have hv := ev_tmp h hx (fun c => by simp)
      unfold RV at hv
      refine wp_value (v := a.eval x) (w1 := w) (by simp only [execOp, Sem.run_pure]) (hK _ _ (Sim.put hn hdf (h.relab hL ho) dst ?_ hin))
      unfold RV; exact ⟨⟨ob, by simp [St.relab]⟩, by rw [upd_same]; exact hv.2⟩
  | assign x =>
    simp only [Pre] at hp
    obtain ⟨hc, rfl | ⟨l, ob, hx, ho, rfl⟩ | ⟨d, el, sz, hd, h0, rfl, rfl⟩ | ⟨l, L, ob, hx, ho, hL, hne, rfl⟩⟩ := hp
    · exact pure_step hn hdf h (by simp only [execOp, Sem.run_pure]) (ev_rv h x hc) hin hK
    · have hv := ev_tmp h hx (fun c => by simp)
      unfold RV at hv
      obtain ⟨S', m, h', r⟩ := h.frz l
      refine wp_value (v := a.eval x) (w1 := w) (by simp only [execOp, Sem.run_pure]) (hK _ _ (Sim.put hn hdf h' dst ?_ hin))
      rw [hv.2]; unfold RV; exact r ob ho
    · refine wp_value (v := .slice none 0 0) (w1 := w) (by simp only [execOp, Sem.run_pure]; rfl) (hK _ _ (Sim.put hn hdf (h.nilrow (d := d + 1) (el := el) (by omega) h0) dst ?_ hin))
      unfold RV; exact ⟨⟨_, by simp [St.set]; rfl⟩, upd_same.symm⟩
    · have hv := ev_tmp h hx (fun c => by simp)
      unfold RV at hv
      refine wp_value (v := a.eval x) (w1 := w) (by simp only [execOp, Sem.run_pure]) (hK _ _ (Sim.put hn hdf (h.relab hL ho) dst ?_ hin))
      unfold RV; exact ⟨⟨ob, by simp [St.relab]⟩, by rw [upd_same]; exact hv.2⟩
  | nilCheck x =>
    simp only [Pre] at hp
    rcases hp with ⟨y, hx, rfl⟩ | ⟨l, i, p, c, hx, rfl⟩
    · have hv := ev_tmp h hx (fun c => by simp)
      have hv0 := hv
      unfold RV at hv
      obtain ⟨b, off, us, e, _⟩ := hv
      exact pure_step hn hdf h (by simp only [execOp, e, Sem.run_pure]) (e ▸ hv0) hin hK
    · have hv := ev_tmp h hx (fun c => by simp)
      have hv0 := hv
      unfold RV at hv
      obtain ⟨ob, ho, e⟩ := hv
      exact pure_step hn hdf h (by simp only [execOp, e, Sem.run_pure]) (e ▸ hv0) hin hK
  | pick c x y =>
    simp only [Pre] at hp
    obtain ⟨hx, hy, t, hc, rfl⟩ := hp
    refine pure_step hn hdf h (v := if t then a.eval x else a.eval y) ?_ ?_ hin hK
    · simp only [execOp]; exact run_pick _ _ _ _ (ev_int h hc)
    · cases t
      · exact ev_rv h y hy
      · exact ev_rv h x hx
  | binOp op t x y t2 =>
    simp only [Pre] at hp
    obtain ⟨p, q, r, hx, hy, hr, h1, rfl⟩ := hp
    refine scal ?_ h1 rfl
    have := hr w
    simp only [execOp, ev_conc h hx, ev_conc h hy]
    rw [Sem.run_bind, this]; rfl
  | unOp op t x =>
    simp only [Pre] at hp
    obtain ⟨p, r, hx, hr, h1, rfl⟩ := hp
    exact scal (by simp only [execOp, ev_conc h hx, Sem.run_bind, hr w, Result.andThen_ok, Sem.run_pure]) h1 rfl
  | convert t1 t2 x =>
    simp only [Pre] at hp
    obtain ⟨p, r, hx, hr, h1, rfl⟩ := hp
    exact scal (by simp only [execOp, ev_conc h hx, Sem.run_bind, hr w, Result.andThen_ok, Sem.run_pure]) h1 rfl
  | index t x i =>
    simp only [Pre] at hp
    obtain ⟨p, q, r, hx, hi, hr, h1, rfl⟩ := hp
    exact scal (by simp only [execOp, ev_conc h hx, ev_conc h hi, Sem.run_bind, hr w, Result.andThen_ok, Sem.run_pure]) h1 rfl
  | slice t x lo hi mx =>
    simp only [Pre] at hp
    obtain ⟨p, r, hx, hall, hr, h1, rfl⟩ := hp
    have hone : ∀ (m : Option Operand), (∀ y ∈ m.toList, (conc (s.ev y)).isSome = true) → m.map a.eval = m.map fun y => (conc (s.ev y)).getD undef := fun m hm => by
      cases m with
      | none => rfl
      | some y =>
        have := hm y (by simp)
        obtain ⟨b, hb⟩ := Option.isSome_iff_exists.1 this
        simp [hb, ev_conc h hb]
    refine scal ?_ h1 rfl
    simp only [execOp, ev_conc h hx]
    rw [hone lo (fun y hy => hall y (by simp at hy ⊢; exact .inl hy)), hone hi (fun y hy => hall y (by simp at hy ⊢; exact .inr (.inl hy))), hone mx (fun y hy => hall y (by simp at hy ⊢; exact .inr (.inr hy)))]
    rw [Sem.run_bind, hr w]; rfl
  | extract x i =>
    simp only [Pre] at hp
    obtain ⟨xs, y, hx, hy, rfl⟩ := hp
    have hv := ev_tmp h hx (fun c => by simp)
    unfold RV at hv
    obtain ⟨us, e, hv⟩ := hv
    have hat : ∀ (xs : List AV) (us : List Value) (i : Nat) (y : AV), RVs S w s.hp B V xs us → xs[i]? = some y → ∃ u, us[i]? = some u ∧ RV S w s.hp B V y u := by
      intro xs
      induction xs with
      | nil => intro us i y _ hy; simp at hy
      | cons x xs ih =>
        intro us i y hr hy
        unfold RVs at hr
        obtain ⟨u, us', rfl, h1, h2⟩ := hr
        cases i with
        | zero => simp at hy; subst hy; exact ⟨u, rfl, h1⟩
        | succ i => simp at hy; simpa using ih us' i y h2 hy
    obtain ⟨u, hu, hrv⟩ := hat xs us i y hv hy
    exact pure_step hn hdf h (by simp [execOp, e, Instr.extract, hu]) hrv hin hK
  | alloc t => exact pre_alloc hΘ hn hdf h hp hin hK
  | box t x => exact pre_box hΘ hn hdf h hp hin hK
  | build t ps => exact pre_build hΘ hn hdf h hp hin hK
  | buildSlice t m ps => exact pre_buildSlice hΘ hn hdf h hp hin hK
  | makeSlice t l c => exact pre_make hΘ hn hdf h hp hin hK
  | load t x => exact pre_load hΘ hn hdf h hp hin hK
  | store t x y => exact pre_store hΘ hn hdf h hp hin hK
  | fieldAddr t x f => exact pre_field hΘ hn hdf h hp hin hK
  | indexAddr t x i => exact pre_index hΘ hn hdf h hp hin hK
  | call c =>
    obtain ⟨callee, ags, ts⟩ := c
    cases callee with
    | invoke r m => simp only [Pre] at hp
    | builtin b => cases b with
      | len => exact pre_len hΘ hn hdf h hp hin hK
      | append => exact pre_append hΘ hn hdf h hp hin hK
      | delete => exact pre_delete hΘ hn hdf h hp hin hK
      | _ => simp only [Pre] at hp
    | value f => cases f with
      | func f => exact pre_call hn hdf h hp hin hK
      | _ => simp only [Pre] at hp
  | makeMap t r => exact pre_makeMap hΘ hn hdf h hp hin hK
  | mapUpdate t m k v => exact pre_mapUpdate hΘ hn hdf h hp hin hK
  | lookup t m k ok => exact pre_lookup hΘ hn hdf h hp hin hK
  | _ => simp only [Pre] at hp
end
end Go.Proofs.Ytmafbodblpgcjaa.AM
