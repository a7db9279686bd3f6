/- The machine over data, second make (N10): own maps with string keys; append, len; functions and interfaces made. -/
import Derived.Test.YtmafbodblpgcjaaN9
import Derived.MapKept
namespace Go.Proofs.Ytmafbodblpgcjaa.AM
open Go Go.RowKit Go.MapKept
set_option linter.unusedVariables false
set_option linter.unusedSimpArgs false
theorem bbeq (a b : ByteArray) : (a == b) = decide (a = b) := by
  obtain ⟨x⟩ := a
  obtain ⟨y⟩ := b
  show (x == y) = decide ((⟨x⟩ : ByteArray) = ⟨y⟩)
  by_cases h : x = y
  · subst h; simp
  · simp [h]
theorem RL.free {S S' : Nat → Prop} {w w' : World} : ∀ {xs : List AV} {cs : List Value} {bs : List Value}, conc.concL xs = some bs → RL S w xs cs → RL S' w' xs cs
  | [], cs, bs, _, h => by unfold RL at h ⊢; exact h
  | .v x :: xs, cs, bs, hc, h => by
    unfold RL at h ⊢
    obtain ⟨c1, c2, e, h1, h2⟩ := h
    unfold conc.concL at hc
    cases hb : conc.concL xs with
    | none => rw [hb] at hc; cases hc
    | some b => exact ⟨c1, c2, e, by unfold RA at h1 ⊢; exact h1, RL.free hb h2⟩
  | .any :: _, _, _, hc, _ | .agg _ :: _, _, _, hc, _ | .lst _ _ :: _, _, _, hc, _ | .ptr _ :: _, _, _, hc, _ | .own _ :: _, _, _, hc, _ | .optr _ _ _ _ :: _, _, _, hc, _ | .tup _ :: _, _, _, hc, _ | .mapv _ :: _, _, _, hc, _ | .mix _ :: _, _, _, hc, _ | .rd _ :: _, _, _, hc, _ | .fn _ _ _ :: _, _, _, hc, _ | .ifc _ _ :: _, _, _, hc, _ => by simp [conc.concL] at hc
theorem RV.free {S : Nat → Prop} {w : World} {hp B V} {x : AV} {u b : Value} (hc : conc x = some b) (h : RV S w hp B V x u) : ∀ S' w' hp' B' V', RV S' w' hp' B' V' x u := fun S' w' hp' B' V' => by
  cases x with
  | v x => unfold RV at h ⊢; exact h
  | agg xs =>
    unfold RV at h ⊢
    obtain ⟨cs, e, h⟩ := h
    simp only [conc, Option.map_eq_some_iff] at hc
    obtain ⟨bs, hb, _⟩ := hc
    exact ⟨cs, e, RL.free hb h⟩
  | _ => simp [conc] at hc
theorem MapR.find {q : ByteArray} : ∀ {m : List (ByteArray × AV)} {es : List MapEntry} (i : Nat), MapR m es →
    (mget m q = none ∧ Instr.findNow .string (.string q) es i = some none ∧ mdel m q = m) ∨ ∃ j e y, j < es.length ∧ mget m q = some y ∧ Instr.findNow .string (.string q) es i = some (some (i + j, e.val)) ∧ es[j]? = some e ∧ e.key = .string q ∧ (∀ S w hp B V, RV S w hp B V y e.val) ∧ MapR (mdel m q) (es.eraseIdx j)
  | [], es, i, h => by unfold MapR at h; subst h; exact .inl ⟨rfl, rfl, rfl⟩
  | (k, y) :: m, es, i, h => by
    unfold MapR at h
    obtain ⟨e, r, rfl, h1, h2, h3⟩ := h
    by_cases hk : q = k
    · subst hk
      refine .inr ⟨0, e, y, by simp, by simp [mget], ?_, rfl, h1, h2, by simp [mdel]; exact h3⟩
      simp [Instr.findNow, h1, Instr.sameNow, bbeq]
    · have hs : Instr.sameNow .string (.string q) e.key = some false := by rw [h1]; simp [Instr.sameNow, bbeq, hk]
      have hmd : mdel ((k, y) :: m) q = (k, y) :: mdel m q := by simp [mdel, hk]
      have hmg : mget ((k, y) :: m) q = mget m q := by simp [mget, hk]
      rcases MapR.find (i + 1) h3 with ⟨a1, a2, a3⟩ | ⟨j, e', y', b0, b1, b2, b3, b4, b5, b6⟩
      · exact .inl ⟨hmg.trans a1, by rw [Instr.findNow, hs]; exact a2, by rw [hmd, a3]⟩
      · refine .inr ⟨j + 1, e', y', by simp; omega, hmg.trans b1, by rw [Instr.findNow, hs]; simp only; rw [b2, Nat.add_assoc, Nat.add_comm 1 j], by simpa using b3, b4, b5, ?_⟩
        rw [hmd, List.eraseIdx_cons_succ]
        unfold MapR
        exact ⟨e, _, rfl, h1, h2, b6⟩
theorem MapR.put {q : ByteArray} {x : AV} {u : Value} (hx : ∀ S w hp B V, RV S w hp B V x u) : ∀ {m : List (ByteArray × AV)} {es : List MapEntry} (clock : Nat), MapR m es →
    (mget m q = none → MapR (mput m q x) (es ++ [{ key := .string q, val := u, born := clock }])) ∧ ∀ i j e, Instr.findNow .string (.string q) es i = some (some (i + j, e)) → MapR (mput m q x) (es.modify j fun e => { e with key := .string q, val := u })
  | [], es, clock, h => by
    unfold MapR at h; subst h
    refine ⟨fun _ => ?_, fun i j e hf => by simp [Instr.findNow] at hf⟩
    simp only [mput, List.nil_append]
    unfold MapR
    exact ⟨_, [], rfl, rfl, hx, by unfold MapR; rfl⟩
  | (k, y) :: m, es, clock, h => by
    unfold MapR at h
    obtain ⟨e, r, rfl, h1, h2, h3⟩ := h
    by_cases hk : q = k
    · subst hk
      refine ⟨fun hn => by simp [mget] at hn, fun i j e' hf => ?_⟩
      simp [Instr.findNow, h1, Instr.sameNow, bbeq] at hf
      have : j = 0 := by omega
      subst this
      simp only [mput, if_true, List.modify_zero_cons]
      unfold MapR
      exact ⟨_, r, rfl, rfl, hx, h3⟩
    · have hs : Instr.sameNow .string (.string q) e.key = some false := by rw [h1]; simp [Instr.sameNow, bbeq, hk]
      have hmp : mput ((k, y) :: m) q x = (k, y) :: mput m q x := by simp [mput, hk]
      have hmg : mget ((k, y) :: m) q = mget m q := by simp [mget, hk]
      obtain ⟨p1, p2⟩ := MapR.put hx clock h3
      rw [hmp, hmg]
      refine ⟨fun hn => ?_, fun i j e' hf => ?_⟩
      · rw [List.cons_append]; unfold MapR; exact ⟨e, _, rfl, h1, h2, p1 hn⟩
      · rw [Instr.findNow, hs] at hf
        simp only at hf
        have hj : 0 < j := by
          rcases Nat.eq_zero_or_pos j with h0 | h0
          · subst h0
            rcases MapR.find (q := q) (i + 1) h3 with ⟨_, a2, _⟩ | ⟨j', e2, y2, _, _, b2, _⟩
            · rw [a2] at hf; cases hf
            · rw [b2] at hf; simp at hf; omega
          · exact h0
        obtain ⟨j', rfl⟩ : ∃ j', j = j' + 1 := ⟨j - 1, by omega⟩
        rw [List.modify_succ_cons]
        unfold MapR
        exact ⟨e, _, rfl, h1, h2, p2 (i + 1) j' e' (by rw [hf]; congr 3; omega)⟩

section
variable {P : Program} {Θ : Tab} {W : World} {M : Hand} {S0 : Nat → Prop} {n : Nat} {s : St} {a : Act} {w : World} {S : Nat → Prop} {B : Nat → Nat} {V : Nat → Value} {T : Nat → Nat → Prop} {tmps : Array Value}
variable {K : Act → World → Prop} {Q : Exit → Act → World → Prop}
theorem SimW.setM (h : SimW W M S0 s tmps w S B V T) {l : Nat} {ent ent' : List (ByteArray × AV)} {arr arr' : Array MapEntry} {clock clock' : Nat} (hl : s.mp l = some ent) (hb : w.heap[B l]? = some (.map arr clock)) (hR : MapR ent' arr'.toList) :
    SimW W M S0 (s.setM l ent') tmps { w with heap := w.heap.setIfInBounds (B l) (.map arr' clock') } S B V T := by
  obtain ⟨⟨t0, sz0, a1⟩, a2, _⟩ := h.rows.mp l ent hl
  obtain ⟨k1, k2⟩ := heap_set (o' := .map arr' clock') hb
  have hbl : Blk V T l (B l) := .inr a2
  have hSw : ∀ b, S b → (w.heap.setIfInBounds (B l) (.map arr' clock'))[b]? = w.heap[b]? := fun b hs => k2 b (fun e => (h.far a1).1 b hs (e ▸ hbl))
  have hoth : ∀ j o g, j ≠ l → s.hp j = some o → Blk V T j g → (w.heap.setIfInBounds (B l) (.map arr' clock'))[g]? = w.heap[g]? := fun j o g hj hjo hg => k2 g (fun e => (h.far a1).2 j o g hj hjo hg (e ▸ hbl))
  have hgr : Grown w { w with heap := w.heap.setIfInBounds (B l) (.map arr' clock') } (Blk V T l) := ⟨rfl, rfl, rfl, by simp, fun k _ hk => k2 k (fun e => hk (by rw [e]; exact hbl))⟩
  have hnd : (V l).ownBlock ≠ some (B l) := fun e => h.rows.nd l _ _ a1 e a2
  refine ⟨h.below.trans hgr (fun g hb hlt => (h.rows.me l _ g a1 hb).2.2.resolve_left (by omega)), h.s0, fun b hb' => ⟨Nat.lt_of_lt_of_le (h.slt b hb').1 hgr.size, (h.slt b hb').2⟩, fun t => RV.carry (fun _ h => h) hSw _ _ (fun j _ => Same.refl j) (h.sl t), ⟨fun j o e => ?_, fun j o g e hg => ?_, h.rows.nd, h.rows.ds, fun j es e => ?_⟩, h.pin⟩
  · by_cases hj : j = l
    · subst hj
      rw [show s.hp j = some o from e] at a1; cases a1
      obtain ⟨t, cs, q1, q2, q3, q4, q5, q6⟩ := h.rows.ro j _ e
      refine ⟨t, cs, q1, RL.mono (fun _ h => h) hSw _ _ q2, q3, q4, owns_carry q5 (fun g hg => k2 g (fun e => hnd (by rw [hg, e]))), q6⟩
    · exact (h.rows.ro j o e).carry (fun _ h => h) hSw (fun j _ => Same.refl j) (fun g hg => hoth j o g hj e (.inr hg)) (fun g hg => hoth j o g hj e (.inl hg))
  · obtain ⟨q1, q2, q3⟩ := h.rows.me j o g e hg
    exact ⟨q1, Nat.lt_of_lt_of_le q2 hgr.size, q3⟩
  · by_cases hj : j = l
    · subst hj
      have : es = ent' := by simpa [St.setM] using e.symm
      subst this
      exact ⟨⟨t0, sz0, a1⟩, a2, arr', clock', k1, hR⟩
    · have e' : s.mp j = some es := by simpa [St.setM, nbne hj] using e
      obtain ⟨⟨t2, sz2, b1⟩, b2, arr2, clock2, b3, b4⟩ := h.rows.mp j es e'
      exact ⟨⟨t2, sz2, b1⟩, b2, arr2, clock2, (hoth j _ _ hj b1 (.inr b2)).trans b3, b4⟩
theorem SimW.newMap (h : SimW W M S0 s tmps w S B V T) {d t : Nat} (hok : okL d = true) (hf : s.hp d = none) :
    SimW W M S0 ((s.set d (some ⟨.s t, 1, []⟩)).setM d []) tmps (w.alloc (.map #[] 0)) S (upd B d w.heap.size) (upd V d (.slice none 0 0)) (upd T d (fun g => g = w.heap.size)) := by
  have hb : Below w.heap.size w (w.alloc (.map #[] 0)) := (Below.refl _ _).alloc (Nat.le_refl _) _
  obtain ⟨hn1, hn2⟩ := fresh_names h hf
  have hlt : w.heap.size < (w.alloc (.map #[] 0)).heap.size := (Array.getElem?_eq_some_iff.1 (heap_alloc w (.map #[] 0)).1).1
  have h1 := h.repl (l := d) (ob' := ⟨.s t, 1, []⟩) (b' := w.heap.size) (v' := .slice none 0 0) (T' := fun g => g = w.heap.size) hok hn1 (fun j o _ ho => hn2 j o ho) (Grown.of hb _) ⟨t, [], fun t' e => by cases e; rfl, by simp only [RK]; unfold RL; rfl, by simp, Nat.one_pos, World.ownsRow_nil _ _ _ _, fun g hg => by simp [Value.ownBlock] at hg⟩ (fun g hg => by
    rcases hg with hg | hg
    · simp [Value.ownBlock] at hg
    · exact ⟨by rw [hg]; exact hlt, .inl (.inl (by rw [hg]; exact Nat.le_refl _))⟩) (fun g hg => by simp [Value.ownBlock] at hg)
  refine ⟨h1.below, h1.s0, h1.slt, h1.sl, ⟨h1.rows.ro, h1.rows.me, h1.rows.nd, h1.rows.ds, fun j es e => ?_⟩, h1.pin⟩
  by_cases hj : j = d
  · subst hj
    have : es = [] := by simpa [St.setM] using e.symm
    subst this
    rw [upd_same, upd_same]
    exact ⟨⟨t, 1, set_hp⟩, rfl, #[], 0, (heap_alloc w _).1, by simp [MapR]⟩
  · exact h1.rows.mp j es (by simpa [St.setM, nbne hj] using e)
theorem ev_map (h : SimW W M S0 s a.tmps w S B V T) {x : Operand} {l : Nat} (hx : s.ev x = .mapv l) : a.eval x = .map (some (B l)) := by
  have hv := ev_tmp h hx (fun c => by simp)
  unfold RV at hv
  exact hv.2
theorem str_key (q : ByteArray) : IsKey .string (.string q) := by simp [IsKey]
theorem pre_makeMap (hΘ : TabOK P Θ) (hn : a.tmps.size = n) (hdf : a.defers = []) (h : SimW W M S0 s a.tmps w S B V T) {dst : Option Tmp} {t : TypeId} {r : Option Operand} {ty : TypeId} {pos : String} {after : Array Edge} {guard : Option (Nat × Bool)} {e : Eff}
    (hp : Pre P Θ ⟨dst, .makeMap t r, ty, pos, after, guard⟩ s e) (hin : inN n dst = true) (hK : ∀ a' w', Sim W M S0 n (s.app dst e) a' w' → K a' w') : (⟨dst, .makeMap t r, ty, pos, after, guard⟩ : Oper).wp P a w K Q := by
  simp only [Pre] at hp
  obtain ⟨d, kt, vt, z, rfl, hf, hok, ht, hr, rfl⟩ := hp
  have hT := hΘ t
  rw [ht] at hT
  have hrun : (Instr.makeMap t (r.map a.eval)).run P w = .ok (.map (some w.heap.size)) (w.alloc (.map #[] 0)) := by
    cases r with
    | none => rfl
    | some x =>
      obtain ⟨k, m, hx⟩ := hr x (by simp)
      simp [Instr.makeMap, run_underlying hT.1, ev_int h hx, asInt, asIntOf, Result.andThen]
  refine wp_value (v := .map (some w.heap.size)) (w1 := w.alloc (.map #[] 0)) (by simp only [execOp, Sem.run_bind, hrun, Result.andThen_ok, Sem.run_pure]) (hK _ _ (Sim.put hn hdf (h.newMap (d := d + 1) (t := t) hok hf) (some d) ?_ hin))
  unfold RV
  exact ⟨⟨_, by simp [St.setM, St.set]; rfl⟩, by rw [upd_same]⟩
theorem pre_lookup (hΘ : TabOK P Θ) (hn : a.tmps.size = n) (hdf : a.defers = []) (h : SimW W M S0 s a.tmps w S B V T) {dst : Option Tmp} {t : TypeId} {m k : Operand} {ok : Bool} {ty : TypeId} {pos : String} {after : Array Edge} {guard : Option (Nat × Bool)} {e : Eff}
    (hp : Pre P Θ ⟨dst, .lookup t m k ok, ty, pos, after, guard⟩ s e) (hin : inN n dst = true) (hK : ∀ a' w', Sim W M S0 n (s.app dst e) a' w' → K a' w') : (⟨dst, .lookup t m k ok, ty, pos, after, guard⟩ : Oper).wp P a w K Q := by
  simp only [Pre] at hp
  obtain ⟨l, ent, kk, kt, vt, z, ht, hm, hmp, hk, rfl⟩ := hp
  have hT := hΘ t
  rw [ht] at hT
  obtain ⟨hu, hkt, i, zv, hi, hz, hzr⟩ := hT
  obtain ⟨_, _, arr, clock, hb, hR⟩ := h.rows.mp l ent hmp
  have key : ∃ v, (Instr.lookup t (a.eval m) (a.eval k) ok).run P w = .ok (if ok then .tuple #[v, .bool (mget ent kk).isSome] else v) w ∧ ∀ S w hp B V, RV S w hp B V ((mget ent kk).getD z) v := by
    rw [ev_map h hm, ev_int h hk]
    rcases MapR.find (q := kk) 0 hR with ⟨f1, f2, _⟩ | ⟨j, en, y, _, f1, f2, _, _, f3, _⟩
    · refine ⟨zv, ?_, by rw [f1]; exact hzr⟩
      have hzero : (zeroValue vt).run P w = .ok zv w := by simp [zeroValue, typeInfo, run_program, hi, hz, Result.andThen]
      simp [Instr.lookup, run_underlying hu, MapKept.run_getObj_map hb, MapKept.run_checkKey hkt (str_key kk), MapKept.run_findKey hkt f2, hzero, f1, Result.andThen]
    · refine ⟨en.val, ?_, by rw [f1]; exact f3⟩
      simp [Instr.lookup, run_underlying hu, MapKept.run_getObj_map hb, MapKept.run_checkKey hkt (str_key kk), MapKept.run_findKey hkt f2, f1, Result.andThen]
  obtain ⟨v, hrun, hv⟩ := key
  refine wp_value (v := if ok then .tuple #[v, .bool (mget ent kk).isSome] else v) (w1 := w) (by simp only [execOp, Sem.run_bind, hrun, Result.andThen_ok, Sem.run_pure]) (hK _ _ (Sim.put hn hdf h dst ?_ hin))
  cases ok with
  | false => exact hv _ _ _ _ _
  | true =>
    simp only [cond_true, if_true]
    unfold RV
    refine ⟨[v, .bool (mget ent kk).isSome], rfl, ?_⟩
    unfold RVs
    refine ⟨_, _, rfl, hv _ _ _ _ _, ?_⟩
    unfold RVs
    refine ⟨_, _, rfl, by unfold RV; exact ⟨rfl, rfl⟩, by unfold RVs; rfl⟩
theorem pre_mapUpdate (hΘ : TabOK P Θ) (hn : a.tmps.size = n) (hdf : a.defers = []) (h : SimW W M S0 s a.tmps w S B V T) {dst : Option Tmp} {t : TypeId} {m k x : Operand} {ty : TypeId} {pos : String} {after : Array Edge} {guard : Option (Nat × Bool)} {e : Eff}
    (hp : Pre P Θ ⟨dst, .mapUpdate t m k x, ty, pos, after, guard⟩ s e) (hin : inN n dst = true) (hK : ∀ a' w', Sim W M S0 n (s.app dst e) a' w' → K a' w') : (⟨dst, .mapUpdate t m k x, ty, pos, after, guard⟩ : Oper).wp P a w K Q := by
  simp only [Pre] at hp
  obtain ⟨l, ent, kk, b, kt, vt, z, ht, hm, hmp, hk, hx, hcs, rfl⟩ := hp
  have hT := hΘ t
  rw [ht] at hT
  obtain ⟨hu, hkt, i, zv, hi, hz, hzr⟩ := hT
  obtain ⟨_, _, arr, clock, hb, hR⟩ := h.rows.mp l ent hmp
  have hxv : ∀ S w hp B V, RV S w hp B V (s.ev x) b := by
    have hv := ev_rv h x hcs
    rw [ev_conc h hx] at hv
    exact RV.free hx hv
  obtain ⟨p1, p2⟩ := MapR.put (q := kk) hxv clock hR
  have key : ∃ arr' clock', (Instr.mapUpdate t (a.eval m) (a.eval k) (a.eval x)).run P w = .ok () { w with heap := w.heap.setIfInBounds (B l) (.map arr' clock') } ∧ MapR (mput ent kk (s.ev x)) arr'.toList := by
    rw [ev_map h hm, ev_int h hk, ev_conc h hx]
    rcases MapR.find (q := kk) 0 hR with ⟨f1, f2, _⟩ | ⟨j, en, y, fj, f1, f2, f4, f5, f3, _⟩
    · refine ⟨arr.push { key := .string kk, val := b, born := clock }, clock + 1, ?_, by simpa using p1 f1⟩
      simp [Instr.mapUpdate, run_underlying hu, MapKept.run_getObj_map hb, MapKept.run_checkKey hkt (str_key kk), MapKept.run_findKey hkt f2, MapKept.run_setObj_map _ hb, Result.andThen]
    · rw [Nat.zero_add] at f2
      refine ⟨arr.modify j fun e => { e with key := .string kk, val := b }, clock, ?_, ?_⟩
      · have hj : arr[j]? = some en := by simpa using f4
        simp [Instr.mapUpdate, run_underlying hu, MapKept.run_getObj_map hb, MapKept.run_checkKey hkt (str_key kk), MapKept.run_findKey hkt f2, hj, f5, MapKept.run_keyThatStays (str_key kk), MapKept.run_setObj_map _ hb, Result.andThen]
      · have := p2 0 j en.val (by rw [Nat.zero_add]; exact f2)
        simpa using this
  obtain ⟨arr', clock', hrun, hR'⟩ := key
  refine wp_skipped (w1 := { w with heap := w.heap.setIfInBounds (B l) (.map arr' clock') }) (by simp only [execOp, Sem.run_bind, hrun, Result.andThen_ok, Sem.run_pure]) (hK _ _ (Sim.put hn hdf (h.setM hmp hb hR') dst (by unfold RV; trivial) hin))
theorem pre_delete (hΘ : TabOK P Θ) (hn : a.tmps.size = n) (hdf : a.defers = []) (h : SimW W M S0 s a.tmps w S B V T) {dst : Option Tmp} {ags : Array Operand} {ts : Array TypeId} {ty : TypeId} {pos : String} {after : Array Edge} {guard : Option (Nat × Bool)} {e : Eff}
    (hp : Pre P Θ ⟨dst, .call ⟨.builtin .delete, ags, ts⟩, ty, pos, after, guard⟩ s e) (hin : inN n dst = true) (hK : ∀ a' w', Sim W M S0 n (s.app dst e) a' w' → K a' w') : (⟨dst, .call ⟨.builtin .delete, ags, ts⟩, ty, pos, after, guard⟩ : Oper).wp P a w K Q := by
  simp only [Pre] at hp
  obtain ⟨x, y, t, t2, l, ent, kk, kt, vt, z, rfl, rfl, ht, hx, hmp, hy, rfl⟩ := hp
  have hT := hΘ t
  rw [ht] at hT
  obtain ⟨hu, hkt, i, zv, hi, hz, hzr⟩ := hT
  obtain ⟨_, _, arr, clock, hb, hR⟩ := h.rows.mp l ent hmp
  have ex := ev_map h hx
  have ey := ev_int h hy
  have key : ∃ arr', (Builtin.delete_ #[t, t2] ty #[.map (some (B l)), .string kk]).run P w = .ok (.tuple #[]) { w with heap := w.heap.setIfInBounds (B l) (.map arr' clock) } ∧ MapR (mdel ent kk) arr'.toList := by
    rcases MapR.find (q := kk) 0 hR with ⟨f1, f2, f3⟩ | ⟨j, en, y, fj, f1, f2, f4, f5, f3, f6⟩
    · refine ⟨arr, ?_, by rw [f3]; exact hR⟩
      simp [Builtin.delete_, run_underlying hu, MapKept.run_getObj_map hb, MapKept.run_checkKey hkt (str_key kk), MapKept.run_findKey hkt f2, MapKept.run_setObj_map _ hb, Result.andThen]
    · rw [Nat.zero_add] at f2
      refine ⟨arr.eraseIdxIfInBounds j, ?_, by
        have hj : j < arr.size := by simpa using fj
        rw [Array.eraseIdxIfInBounds, dif_pos hj]; simpa using f6⟩
      simp [Builtin.delete_, run_underlying hu, MapKept.run_getObj_map hb, MapKept.run_checkKey hkt (str_key kk), MapKept.run_findKey hkt f2, MapKept.run_setObj_map _ hb, Result.andThen]
  obtain ⟨arr', hrun, hR'⟩ := key
  refine wp_value (v := .tuple #[]) (w1 := { w with heap := w.heap.setIfInBounds (B l) (.map arr' clock) }) (by simp only [execOp, resolve, invoke, builtin, Sem.run_bind, Sem.run_pure, Result.andThen_ok, List.map_toArray, List.map_cons, List.map_nil, ex, ey, hrun]) (hK _ _ (Sim.put hn hdf (h.setM hmp hb hR') dst (by unfold RV; exact ⟨[], rfl, by unfold RVs; rfl⟩) hin))

/-! ### append, len -/
theorem run_append_zero {t ty e : TypeId} {i : TypeInfo} (ht : P.underlying t = some (.slice e)) (hi : P.info? e = some i) {base t0 sz m : Nat} {v : Value} {xs : List Value} (hown : w.ownsRow base t0 sz v m xs) (A : Option Addr) (c : Nat) :
    (Builtin.append_ #[t, t] ty #[v, .slice A 0 c]).run P w = .ok v w := by
  have hf : (Builtin.firstCells i.size 0 (.slice A 0 c)).run P w = .ok #[] w := by
    cases A with
    | none => simp [Builtin.firstCells]
    | some a => exact run_firstCells_some (P := P) w i.size 0 a 0 c [] (by simp) (by simp)
  rcases hown.2 with ⟨rfl, rfl⟩ | ⟨g, cap, cur, rfl, _, _, hc, _⟩
  · simp [Builtin.append_, run_underlying ht, sizeOf, typeInfo, hi, Builtin.lenOf, hf]
  · simp [Builtin.append_, run_underlying ht, sizeOf, typeInfo, hi, Builtin.lenOf, hf, hc, storeCells]
theorem owns_nil {t sz : Nat} {v : Value} {n : Nat} {cs : List Value} (h : w.ownsRow 0 t sz v n cs) : v.oneCell' = true := by
  rcases h.2 with ⟨rfl, _⟩ | ⟨g, cap, cur, rfl, _⟩ <;> rfl
/-- what append does in memory: the row that owned cs owns cs ++ us -/
theorem append_mem {t ty el : TypeId} {sz b : Nat} {z : AV} (hT : TIok P t (.slice el sz b z)) {v : Value} {m k : Nat} {cs us : List Value} (hown : w.ownsRow 0 el sz v m cs) {A : Option Addr} {c : Nat} (hus : us.length = k * sz) (h1 : ∀ u ∈ us, u.oneCell' = true) (hy : k = 0 ∨ ∃ ad, A = some ad ∧ ∀ j u, us[j]? = some u → w.cell? (ad.add j) = some u) (hb : (m + k) * b ≤ 140737488355328) (hm : m + k ≤ maxLen) :
    ∃ v' w1, (Builtin.append_ #[t, t] ty #[v, .slice A k c]).run P w = .ok v' w1 ∧ w1.ownsRow 0 el sz v' (m + k) (cs ++ us) ∧ Grown w w1 (fun g => v.ownBlock = some g) ∧ ∀ g, v'.ownBlock = some g → g < w1.heap.size ∧ (v.ownBlock = some g ∨ w.heap.size ≤ g) := by
  obtain ⟨hu, _, i, zv, hi, hzv, hs, hby, h0, hasz, hzr⟩ := hT
  rcases Nat.eq_zero_or_pos k with hk | hk
  · subst hk
    have : us = [] := List.eq_nil_of_length_eq_zero (by omega)
    subst this
    exact ⟨v, w, run_append_zero hu hi hown A c, by simpa using hown, Grown.refl _ _, fun g hg => ⟨(hown.lt g hg).2, .inl hg⟩⟩
  · rcases hy with hy | ⟨ad, rfl, hc⟩
    · omega
    have hzs : zv.cells.size = sz := by rw [← Array.length_toList, RD.size _ _ _ (hzr w), hasz]
    obtain ⟨g, cap, w1, hrun, hown', hgr, hat, hlt⟩ := run_append_lies (P := P) w t ty 0 el i zv sz b hu hi hzv hs hby hzs h0 v m cs hown ad k c us hus hc h1 hk hm hb (Nat.zero_le _) w.heap.size rfl
    exact ⟨_, w1, hrun, hown', Grown.by hgr, fun g' hg' => by
      simp [Value.ownBlock] at hg'; subst hg'
      exact ⟨hlt, hat.imp id (fun e => by omega)⟩⟩
/-- the cells of a row that is owned, as a source -/
theorem row_src {hp : Nat → Option OB} {T : Nat → Prop} {ob : OB} {b : Nat} {v : Value} (h : RO S w hp B V T ob b v) : ∃ A c us, v = .slice A ob.xs.length c ∧ us.length = ob.xs.length * ob.sz ∧ RK S w hp B V ob.sz ob.xs T us ob.e ∧ (ob.xs.length = 0 ∨ ∃ ad, A = some ad ∧ ∀ j u, us[j]? = some u → w.cell? (ad.add j) = some u) := by
  obtain ⟨t, cs, h1, h2, h3, h4, h5, h6⟩ := h
  rcases h5.2 with ⟨rfl, hl⟩ | ⟨g, cap, cur, rfl, _, hg, hc, hm, hs, ht⟩
  · exact ⟨none, 0, cs, by rw [hl], h5.1, h2, .inl hl⟩
  · exact ⟨_, cap, cs, rfl, h5.1, h2, .inr ⟨_, rfl, fun j u hu => by rw [add_off, Nat.zero_add]; exact row_cell hg ht hu⟩⟩
theorem pre_append (hΘ : TabOK P Θ) (hn : a.tmps.size = n) (hdf : a.defers = []) (h : SimW W M S0 s a.tmps w S B V T) {dst : Option Tmp} {ags : Array Operand} {ts : Array TypeId} {ty : TypeId} {pos : String} {after : Array Edge} {guard : Option (Nat × Bool)} {e : Eff}
    (hp : Pre P Θ ⟨dst, .call ⟨.builtin .append, ags, ts⟩, ty, pos, after, guard⟩ s e) (hin : inN n dst = true) (hK : ∀ a' w', Sim W M S0 n (s.app dst e) a' w' → K a' w') : (⟨dst, .call ⟨.builtin .append, ags, ts⟩, ty, pos, after, guard⟩ : Oper).wp P a w K Q := by
  simp only [Pre] at hp
  obtain ⟨x, y, t, el, sz, b, z, l, ob, ys, rfl, rfl, ht, hx, ho, hok, hz, hb, hm, hp⟩ := hp
  have hT := hΘ t
  rw [ht] at hT
  have hvx := ev_tmp h hx (fun c => by simp)
  unfold RV at hvx
  obtain ⟨_, ex⟩ := hvx
  obtain ⟨tt, cs, q0, qk, qa, qpos, qown, qB⟩ := h.rows.ro l ob ho
  have hsz0 : 0 < sz := hz ▸ qpos
  rcases hp with ⟨t0, hk0, rfl, hy, rfl⟩ | ⟨l', ob', hk0, hy, hne, hok', ho', hd', hz', rfl, hpos', rfl⟩
  · have htt : tt = t0 := by rcases hk0 with e | e <;> exact q0 t0 (by rw [e]; rfl)
    subst htt
    have hcs : RL S w ob.xs cs := by
      rcases hk0 with e | e
      · rw [e] at qk; exact qk
      · rw [e] at qk; exact RDL.toRL _ _ _ (fun g hg => (qk.1 g hg).elim) qk.2
    have hsrc : ∃ A c us, a.eval y = .slice A ys.length c ∧ us.length = ys.length * sz ∧ RL S w ys us ∧ (∀ x ∈ ys, asz x = sz) ∧ (ys.length = 0 ∨ ∃ ad, A = some ad ∧ ∀ j u, us[j]? = some u → w.cell? (ad.add j) = some u) := by
      rcases hy with hy | ⟨l', ob', hy, hne, ho', hop, hz', rfl⟩
      · have hv := ev_tmp h hy (fun c => by simp)
        unfold RV at hv
        unfold RA at hv
        obtain ⟨A, c, e, _, _, h3, _, h4⟩ := hv
        simp only [List.cons.injEq, and_true] at e
        rcases h4 with h4 | ⟨b', off, us, rfl, _, hr, hc⟩
        · subst h4; exact ⟨A, c, [], e, by simp, by unfold RL; rfl, by simp, .inl rfl⟩
        · exact ⟨_, c, us, e, by rw [RL.size _ _ hr, aszs_const h3], hr, h3, .inr ⟨_, rfl, fun j u hu => by rw [add_off]; exact hc j u hu⟩⟩
      · have hv := ev_tmp h hy (fun c => by simp)
        unfold RV at hv
        obtain ⟨_, e⟩ := hv
        obtain ⟨A, c, us, e1, e2, e3, e4⟩ := row_src (h.rows.ro l' ob' ho')
        obtain ⟨_, _, _, _, ha', _⟩ := h.rows.ro l' ob' ho'
        refine ⟨A, c, us, by rw [e, e1], by rw [e2, hz'], ?_, hz' ▸ ha', e4⟩
        cases hoe : ob'.e with
        | s _ => rw [hoe] at e3; exact e3
        | z _ => rw [hoe] at e3; exact RDL.toRL _ _ _ (fun g hg => (e3.1 g hg).elim) e3.2
        | _ => rw [hoe] at hop; cases hop
    obtain ⟨A, c, us, ey, hul, hur, hya, hsc⟩ := hsrc
    obtain ⟨v', w1, hrun, hown', hgr, hat⟩ := append_mem (P := P) (ty := ty) hT (by rw [← hz]; exact qown) (A := A) (c := c) hul (RL.one _ _ hur) hsc hb hm
    obtain ⟨kn1, kn2⟩ := kill_names (s := s) (l := l)
    have hSw : ∀ b, S b → w1.heap[b]? = w.heap[b]? := fun b hs => hgr.block b (h.slt b hs).1 (fun hb => (h.far ho).1 b hs (.inl hb))
    have hsim := (h.kill l).repl (l := l) (w' := w1) (ob' := ⟨.s tt, sz, ob.xs ++ ys⟩) (b' := (v'.ownBlock).getD 0) (v' := v') (T' := Fa) hok kn1 (fun j o _ ho => kn2 j o ho) ⟨hgr.os, hgr.tape, hgr.output, hgr.size, fun k hk hn => hgr.block k hk (fun hb => hn ⟨⟨_, killO_of ho⟩, .inl hb⟩)⟩ ⟨tt, cs ++ us, fun t' e => by cases e; rfl, RL.mono (fun _ h => h) hSw _ _ (RL.app hcs hur), fun x hx => (List.mem_append.1 hx).elim (fun hx => hz ▸ qa x hx) (hya x), hsz0, by simpa using hown', fun g hg => by rw [hg]; rfl⟩ (fun g hg => by
      rcases hg with hg | hg
      · obtain ⟨k1, k2⟩ := hat g hg
        exact ⟨k1, .inl (k2.elim (fun k => .inr ⟨⟨_, killO_of ho⟩, .inl k⟩) .inl)⟩
      · exact hg.elim) (fun g _ hg => hg)
    refine wp_value (v := v') (w1 := w1) ?_ (hK _ _ ?_)
    · simp only [execOp, resolve, invoke, builtin, Sem.run_bind, Sem.run_pure, Result.andThen_ok, List.map_toArray, List.map_cons, List.map_nil, ex, ey, hrun]
    · refine Sim.put hn hdf hsim dst ?_ hin
      unfold RV
      exact ⟨⟨_, set_hp⟩, upd_same.symm⟩
  · have htt : tt = el := by rcases hk0 with e | e | ⟨e, _⟩ <;> exact q0 el (by rw [e]; rfl)
    subst htt
    obtain ⟨T1, hT1, hcs⟩ : ∃ T1 : Nat → Prop, (∀ g, T1 g → T l g) ∧ RDL w ob.xs T1 cs := by
      rcases hk0 with e | e | ⟨e, hno⟩
      · rw [e] at qk; exact ⟨T l, fun _ h => h, qk.2⟩
      · rw [e] at qk; exact ⟨T l, fun _ h => h, qk⟩
      · rw [e] at qk
        refine ⟨Fa, fun g hg => hg.elim, ?_⟩
        have : ∀ (xs : List AV) (cs : List Value), (∀ x ∈ xs, noLst x = true) → RL S w xs cs → RDL w xs Fa cs := by
          intro xs
          induction xs with
          | nil => intro cs _ h; unfold RL at h; unfold RDL; exact ⟨h, noF⟩
          | cons x xs ih =>
            intro cs hx h
            unfold RL at h
            obtain ⟨c1, c2, e, h1, h2⟩ := h
            unfold RDL
            exact ⟨c1, c2, Fa, Fa, e, Split.l0 noF, RA.toRD noF _ _ (hx x (by simp)) h1, ih c2 (fun y hy => hx y (List.mem_cons_of_mem _ hy)) h2⟩
        exact this _ _ hno qk
    have hv := ev_tmp h hy (fun c => by simp)
    unfold RV at hv
    obtain ⟨_, ey⟩ := hv
    obtain ⟨A, c, us, e1, e2, e3, e4⟩ := row_src (h.rows.ro l' ob' ho')
    obtain ⟨_, _, _, _, ha', _⟩ := h.rows.ro l' ob' ho'
    have hus : RDL w ob'.xs (T l') us := by
      cases hoe : ob'.e with
      | s _ => rw [hoe] at hd'; cases hd'
      | o _ _ _ => rw [hoe] at hd'; cases hd'
      | z _ => rw [hoe] at e3; exact e3.2
      | d _ => rw [hoe] at e3; exact e3
      | u => rw [hoe] at e3; exact e3
    rw [e1] at ey
    obtain ⟨v', w1, hrun, hown', hgr, hat⟩ := append_mem (P := P) (ty := ty) hT (by rw [← hz]; exact qown) (A := A) (c := c) (by rw [e2, hz']) (RDL.one _ _ _ hus) e4 hb hm
    have hk1 := (h.kill l).drop l' hok'
    have hll : l ≠ l' := Ne.symm hne
    have hgl : ((s.kill l).drop l').hp l = some ⟨killE l' (killE l ob.e), ob.sz, ob.xs⟩ := by
      show (bif Nat.beq l l' then none else killO l' (killO l (s.hp l))) = _
      rw [nbne hll, ho]; rfl
    have hex : ∀ j o, ((s.kill l).drop l').hp j = some o → j ≠ l' ∧ ∃ o1, s.hp j = some o1 ∧ o = ⟨killE l' (killE l o1.e), o1.sz, o1.xs⟩ := fun j o e => by
      have e0 : (bif Nat.beq j l' then none else killO l' (killO l (s.hp j))) = some o := e
      have hj : j ≠ l' := fun e' => by rw [e'] at e0; simp at e0
      rw [nbne hj] at e0
      obtain ⟨o1, f1, f2⟩ := killO_some e0
      obtain ⟨o2, f3, f4⟩ := killO_some f1
      exact ⟨hj, o2, f3, by rw [f2, f4]⟩
    have hn1 : ∀ t, (((s.kill l).drop l').sl t).names l = false := fun t => by
      show AV.names l (bif ((s.kill l).sl t).names l' then .any else (s.kill l).sl t) = false
      cases ((s.kill l).sl t).names l' with
      | true => rfl
      | false => exact (kill_names (s := s) (l := l)).1 t
    have hn2 : ∀ j o, j ≠ l → ((s.kill l).drop l').hp j = some o → namesE l o.e = false := fun j o _ e => by
      obtain ⟨_, o1, _, rfl⟩ := hex j o e
      cases hq : namesE l (killE l' (killE l o1.e)) with
      | false => rfl
      | true => exact absurd ((namesE_kill l o1.e).symm.trans (namesE_kill_sub l' l _ hq)) (by simp)
    have hTw : ∀ g, T l' g → w1.heap[g]? = w.heap[g]? := fun g hg => hgr.block g (h.rows.me l' ob' g ho' (.inr hg)).2.1 (fun hb => hne (h.rows.ds l' l ob' ob g ho' ho (.inr hg) (.inl hb)))
    have hTw1 : ∀ g, T1 g → w1.heap[g]? = w.heap[g]? := fun g hg => hgr.block g (h.rows.me l ob g ho (.inr (hT1 g hg))).2.1 (fun hb => h.rows.nd l ob g ho hb (hT1 g hg))
    have hsim := hk1.repl (l := l) (w' := w1) (ob' := ⟨.d tt, sz, ob.xs ++ ob'.xs⟩) (b' := (v'.ownBlock).getD 0) (v' := v') (T' := fun g => T1 g ∨ T l' g) hok hn1 hn2 ⟨hgr.os, hgr.tape, hgr.output, hgr.size, fun k hk hn => hgr.block k hk (fun hb => hn ⟨⟨_, hgl⟩, .inl hb⟩)⟩ ⟨tt, cs ++ us, fun t' e => by cases e; rfl, RDL.app (RDL.mono _ _ _ hTw1 hcs) (RDL.mono _ _ _ hTw hus) ⟨fun g => Iff.rfl, fun g a b => hne (h.rows.ds l' l ob' ob g ho' ho (.inr b) (.inr (hT1 g a)))⟩, fun x hx => (List.mem_append.1 hx).elim (fun hx => hz ▸ qa x hx) (fun hx => hz' ▸ ha' x hx), hsz0, by simpa using hown', fun g hg => by rw [hg]; rfl⟩ (fun g hg => by
      rcases hg with hg | hg | hg
      · obtain ⟨k1, k2⟩ := hat g hg
        exact ⟨k1, .inl (k2.elim (fun k => .inr ⟨⟨_, hgl⟩, .inl k⟩) .inl)⟩
      · exact ⟨Nat.lt_of_lt_of_le (h.rows.me l ob g ho (.inr (hT1 g hg))).2.1 hgr.size, .inl (.inr ⟨⟨_, hgl⟩, .inr (hT1 g hg)⟩)⟩
      · obtain ⟨m1, m2, m3⟩ := h.rows.me l' ob' g ho' (.inr hg)
        refine ⟨Nat.lt_of_lt_of_le m2 hgr.size, .inr ⟨m1, m3, fun j o e hb => ?_⟩⟩
        obtain ⟨hj, o1, f1, _⟩ := hex j o e
        exact hj (h.rows.ds j l' o1 ob' g f1 ho' hb (.inr hg))) (fun g hg hT => by
      obtain ⟨k1, k2⟩ := hat g hg
      rcases hT with hT | hT
      · rcases k2 with k2 | k2
        · exact h.rows.nd l ob g ho k2 (hT1 g hT)
        · have := (h.rows.me l ob g ho (.inr (hT1 g hT))).2.1; omega
      · rcases k2 with k2 | k2
        · exact hne (h.rows.ds l' l ob' ob g ho' ho (.inr hT) (.inl k2))
        · have := (h.rows.me l' ob' g ho' (.inr hT)).2.1; omega)
    refine wp_value (v := v') (w1 := w1) ?_ (hK _ _ ?_)
    · simp only [execOp, resolve, invoke, builtin, Sem.run_bind, Sem.run_pure, Result.andThen_ok, List.map_toArray, List.map_cons, List.map_nil, ex, ey, hrun]
    · refine Sim.put hn hdf hsim dst ?_ hin
      unfold RV
      exact ⟨⟨_, set_hp⟩, upd_same.symm⟩

theorem pre_len (hΘ : TabOK P Θ) (hn : a.tmps.size = n) (hdf : a.defers = []) (h : SimW W M S0 s a.tmps w S B V T) {dst : Option Tmp} {ags : Array Operand} {ts : Array TypeId} {ty : TypeId} {pos : String} {after : Array Edge} {guard : Option (Nat × Bool)} {e : Eff}
    (hp : Pre P Θ ⟨dst, .call ⟨.builtin .len, ags, ts⟩, ty, pos, after, guard⟩ s e) (hin : inN n dst = true) (hK : ∀ a' w', Sim W M S0 n (s.app dst e) a' w' → K a' w') : (⟨dst, .call ⟨.builtin .len, ags, ts⟩, ty, pos, after, guard⟩ : Oper).wp P a w K Q := by
  simp only [Pre] at hp
  obtain ⟨x, t, m, rfl, rfl, hl, hok, rfl⟩ := hp
  have hT := hΘ t
  have hrun : (Builtin.len_ #[t] ty #[a.eval x]).run P w = .ok (.int .i64 (m : Int)) w := by
    cases hx : s.ev x with
    | v c =>
      rw [hx] at hl hok
      rw [ev_int h hx]
      unfold lenA at hl
      split at hl
      · rename_i bb hq
        cases hq
        simp only [lenOK] at hok
        simp at hl
        rw [hok] at hT
        simp [Builtin.len_, run_underlying hT.1, goInt, hl]
      · rename_i hq
        cases hq
        simp only [lenOK] at hok
        obtain ⟨el, sz', b, z, ht⟩ := hok
        rw [ht] at hT
        simp at hl
        simp [Builtin.len_, run_underlying hT.1, goInt, ← hl]
      · rename_i hq; cases hq
      · rename_i hq; cases hq
      · cases hl
    | lst sz xs =>
      rw [hx] at hl hok
      have hv := ev_tmp h hx (fun c => by simp)
      unfold RV at hv
      unfold RA at hv
      obtain ⟨A, c, e, _⟩ := hv
      simp only [List.cons.injEq, and_true] at e
      obtain ⟨el, sz', b, z, ht⟩ := hok
      rw [ht] at hT
      simp [lenA] at hl
      simp [Builtin.len_, run_underlying hT.1, goInt, e, hl]
    | own l =>
      rw [hx] at hl hok
      have hv := ev_tmp h hx (fun c => by simp)
      unfold RV at hv
      obtain ⟨⟨ob, ho⟩, e⟩ := hv
      obtain ⟨el, sz', b, z, ht⟩ := hok
      rw [ht] at hT
      simp [lenA, ho] at hl
      obtain ⟨A, c, us, e1, _⟩ := row_src (h.rows.ro l ob ho)
      simp [Builtin.len_, run_underlying hT.1, goInt, e, e1, hl]
    | _ => rw [hx] at hl; simp [lenA] at hl
  refine pure_step (x := .v (.int .i64 (m : Int))) (v := .int .i64 (m : Int)) hn hdf h ?_ (one_list rfl) hin hK
  simp only [execOp, resolve, invoke, builtin, Sem.run_bind, Sem.run_pure, Result.andThen_ok, List.map_toArray, List.map_cons, List.map_nil, hrun]

theorem evs_rv (h : SimW W M S0 s a.tmps w S B V T) : ∀ (xs : List Operand), constsOK xs → RVs S w s.hp B V (xs.map s.ev) (xs.map a.eval)
  | [], _ => by simp only [List.map_nil]; unfold RVs; rfl
  | x :: xs, hc => by
    simp only [List.map_cons]
    unfold RVs
    exact ⟨_, _, rfl, ev_rv h x (hc x (by simp)), evs_rv h xs (fun y hy => hc y (List.mem_cons_of_mem _ hy))⟩
theorem pre_makeFunc (hn : a.tmps.size = n) (hdf : a.defers = []) (h : SimW W M S0 s a.tmps w S B V T) {dst : Option Tmp} {fn : Fn} {first captured : Array Operand} {ty : TypeId} {pos : String} {after : Array Edge} {guard : Option (Nat × Bool)} {e : Eff}
    (hp : Pre P Θ ⟨dst, .makeFunc fn first captured, ty, pos, after, guard⟩ s e) (hin : inN n dst = true) (hK : ∀ a' w', Sim W M S0 n (s.app dst e) a' w' → K a' w') : (⟨dst, .makeFunc fn first captured, ty, pos, after, guard⟩ : Oper).wp P a w K Q := by
  simp only [Pre] at hp
  obtain ⟨f, rfl, hc, rfl⟩ := hp
  refine pure_step (x := .fn f (first.toList.map s.ev) (captured.toList.map s.ev)) (v := .func (.func f) (first.map a.eval) (captured.map a.eval)) hn hdf h (by simp only [execOp, Instr.makeFunc, Sem.run_bind, Sem.run_pure, Result.andThen_ok]) ?_ hin hK
  unfold RV
  refine ⟨first.toList.map a.eval, captured.toList.map a.eval, by congr 1 <;> rw [← Array.toList_map, Array.toArray_toList], evs_rv h _ (fun x hx => hc x (List.mem_append_left _ hx)), evs_rv h _ (fun x hx => hc x (List.mem_append_right _ hx))⟩
theorem pre_makeInterface (hΘ : TabOK P Θ) (hn : a.tmps.size = n) (hdf : a.defers = []) (h : SimW W M S0 s a.tmps w S B V T) {dst : Option Tmp} {t : TypeId} {x : Operand} {ty : TypeId} {pos : String} {after : Array Edge} {guard : Option (Nat × Bool)} {e : Eff}
    (hp : Pre P Θ ⟨dst, .makeInterface t x, ty, pos, after, guard⟩ s e) (hin : inN n dst = true) (hK : ∀ a' w', Sim W M S0 n (s.app dst e) a' w' → K a' w') : (⟨dst, .makeInterface t x, ty, pos, after, guard⟩ : Oper).wp P a w K Q := by
  simp only [Pre] at hp
  obtain ⟨hc, hk, hni, rfl⟩ := hp
  have hT := hΘ t
  have hrun : (Instr.makeInterface t (a.eval x)).run P w = .ok (.iface t (a.eval x)) w := by
    cases hq : Θ.look t with
    | non => rw [hq] at hk; cases hk
    | map _ _ _ => rw [hq] at hk; cases hk
    | iface => exact absurd hq hni
    | str => rw [hq] at hT; simp [Instr.makeInterface, run_underlying hT.1]
    | int k => rw [hq] at hT; simp [Instr.makeInterface, run_underlying hT.1]
    | bool => rw [hq] at hT; simp [Instr.makeInterface, run_underlying hT.1]
    | slice _ _ _ _ => rw [hq] at hT; simp [Instr.makeInterface, run_underlying hT.1]
    | struct _ _ => rw [hq] at hT; obtain ⟨_, _, _, hu, _⟩ := hT; simp [Instr.makeInterface, run_underlying hu]
    | ptr => rw [hq] at hT; obtain ⟨⟨_, hu⟩, _⟩ := hT; simp [Instr.makeInterface, run_underlying hu]
    | func => rw [hq] at hT; obtain ⟨⟨_, _, _, hu⟩, _⟩ := hT; simp [Instr.makeInterface, run_underlying hu]
    | arr _ _ _ _ => rw [hq] at hT; simp [Instr.makeInterface, run_underlying hT.1]
  refine pure_step (x := .ifc t (s.ev x)) (v := .iface t (a.eval x)) hn hdf h (by simp only [execOp, Sem.run_bind, hrun, Sem.run_pure, Result.andThen_ok]) ?_ hin hK
  unfold RV
  exact ⟨_, rfl, ev_rv h x hc⟩
theorem pre_indexV (hΘ : TabOK P Θ) (hn : a.tmps.size = n) (hdf : a.defers = []) (h : SimW W M S0 s a.tmps w S B V T) {dst : Option Tmp} {t : TypeId} {x i : Operand} {ty : TypeId} {pos : String} {after : Array Edge} {guard : Option (Nat × Bool)} {e : Eff}
    (hp : Pre P Θ ⟨dst, .index t x i, ty, pos, after, guard⟩ s e) (hin : inN n dst = true) (hK : ∀ a' w', Sim W M S0 n (s.app dst e) a' w' → K a' w') : (⟨dst, .index t x i, ty, pos, after, guard⟩ : Oper).wp P a w K Q := by
  simp only [Pre] at hp
  rcases hp with ⟨p, q, r, hx, hi, hr, h1, rfl⟩ | ⟨el, m, sz, z, k, j, xs, y, ht, hi, hx, hlen, hall, hy, hk, hagg, hsz, rfl⟩
  · exact pure_step (x := .v r) (v := r) hn hdf h (by simp only [execOp, ev_conc h hx, ev_conc h hi, Sem.run_bind, hr w, Result.andThen_ok, Sem.run_pure]) (one_list h1) hin hK
  · have hT := hΘ t
    rw [ht] at hT
    obtain ⟨hu, _, hm0, hsz0, hasz, ie, hie, hse⟩ := hT
    obtain ⟨i0, hi0, hs0, hag, _⟩ := ti_info (hΘ el) hk
    rw [hie] at hi0; cases hi0
    have hv := ev_tmp h hx (fun c => by simp)
    unfold RV at hv
    obtain ⟨cs, e, hr⟩ := hv
    obtain ⟨us, k1, k2, k3, k4⟩ := RL.at j hr hy
    have hjl : j < xs.length := (List.getElem?_eq_some_iff.1 hy).1
    have hpre : aszs (xs.take j) = j * sz := by rw [aszs_const (fun x hx' => hall x (List.mem_of_mem_take hx')), List.length_take, Nat.min_eq_left (by omega)]
    have hul : us.length = sz := by rw [RA.size _ _ k1, hall y (List.mem_of_getElem? hy)]
    obtain ⟨u, hu2, eu, h1⟩ := data_rv (s := s) (B := B) (V := V) k1 hagg
    have hpart : (part el cs.toArray (j * sz)).run P w = .ok u w := by
      rw [hpre] at k3
      unfold part
      cases hg : (Θ.look el).isAgg with
      | true =>
        have hag' := hag w
        rw [hg] at hag'
        simp only [Sem.run_bind, hag', Result.andThen_ok, if_true, sizeOf, typeInfo, run_program, hie, Sem.run_pure, hse]
        rw [hg] at eu
        simp only [if_true] at eu
        rw [← eu]
        congr 2
        apply Array.ext'
        simp only [List.extract_toArray, List.extract_eq_take_drop]
        rw [show j * sz + sz - j * sz = us.length from by omega]
        exact k3
      | false =>
        have hag' := hag w
        rw [hg] at hag'
        simp only [Sem.run_bind, hag', Result.andThen_ok, if_false, Bool.false_eq_true]
        have hl1 := h1 hg
        rw [hg] at eu
        simp only [if_false, Bool.false_eq_true] at eu
        match us, hl1 with
        | [q], _ =>
          have := k4 0 q rfl
          rw [hpre, Nat.add_zero] at this
          simp only [List.getElem?_toArray, this, Sem.run_pure]
          simp at eu; rw [eu]
    have hrun : (Instr.index t (a.eval x) (a.eval i)).run P w = .ok u w := by
      rw [e, ev_int h hi]
      have h2 : (0 : Int) ≤ (j : Int) ∧ (j : Int) < (m : Int) := by omega
      simp only [Instr.index, asIntOf, Sem.run_bind, Sem.run_pure, Result.andThen_ok, run_underlying hu, h2, and_self, if_true, Int.toNat_natCast, sizeOf, typeInfo, run_program, hie, hse, hpart]
    exact pure_step (x := y) (v := u) hn hdf h (by simp only [execOp, Sem.run_bind, hrun, Result.andThen_ok, Sem.run_pure]) hu2 hin hK
end
end Go.Proofs.Ytmafbodblpgcjaa.AM
