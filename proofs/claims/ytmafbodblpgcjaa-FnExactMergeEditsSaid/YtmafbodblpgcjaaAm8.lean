/- The machine over data (Am7, Am8). -/
import Derived.Test.YtmafbodblpgcjaaAm6
/- The machine over data: the steps put together; append; calls. -/
namespace Go.Proofs.Ytmafbodblpgcjaa.AM
open Go Go.RowKit

section
variable {P : Program} {Θ : Tab} {W : World} {M : Option Value} {S0 : Nat → Prop} {n : Nat} {s : St} {a : Act} {w : World} {S : Nat → Prop} {B : Nat → Nat} {V : Nat → Value} {tmps : Array Value}
variable {K : Act → World → Prop} {Q : Exit → Act → World → Prop}

theorem set_hp {s : St} {l : Nat} {o : Option OB} : (s.set l o).hp l = o := by simp [St.set]
theorem Sim.of {n : Nat} (hn : a.tmps.size = n) (hdf : a.defers = []) (h : SimW W M S0 s a.tmps w S B V) : Sim W M S0 n s a w := ⟨hn, hdf, S, B, V, h⟩

theorem pre_store (hΘ : TabOK P Θ) (hn : a.tmps.size = n) (hdf : a.defers = []) (h : SimW W M S0 s a.tmps w S B V) {dst : Option Tmp} {t : TypeId} {x y : Operand} {ty : TypeId} {pos : String} {after : Array Edge} {guard : Option (Nat × Bool)} {e : Eff}
    (hp : Pre P Θ ⟨dst, .store t x y, ty, pos, after, guard⟩ s e) (hin : inN n dst = true) (hK : ∀ a' w', Sim W M S0 n (s.app dst e) a' w' → K a' w') : (⟨dst, .store t x y, ty, pos, after, guard⟩ : Oper).wp P a w K Q := by
  simp only [Pre] at hp
  obtain ⟨l, i, p, c, ob, q, z, hx, ho, hq, hg, hsz, hk, hdz, hd, hnl, rfl⟩ := hp
  obtain ⟨i0, hi0, hs0, _⟩ := ti_info (hΘ t) hk
  have hpx := ev_tmp h hx (fun c => by simp)
  unfold RV at hpx
  obtain ⟨ob', ho', hpx⟩ := hpx
  rw [ho] at ho'; cases ho'
  obtain ⟨S', m, h', r, f, g⟩ := frzL_sim (ownsOf s [y]) h
  have hra := dat_ra h m r (x := y) (by simp) hd
  have hl : l ∉ ownsOf s [y] := fun hm => by simp at hnl; exact hnl hm
  have ho2 : (frzL (ownsOf s [y]) s).hp l = some ob := (g l hl).trans ho
  obtain ⟨w1, hrun, hsim⟩ := store_sim (P := P) h' ho2 (t := t) hq hg hra hdz rfl hi0 (by rw [hs0, hsz])
  refine wp_skipped (w1 := w1) ?_ (hK _ _ ?_)
  · simp only [execOp, hpx, Sem.run_bind, hrun, Result.andThen_ok, Sem.run_pure]
  · exact Sim.put hn hdf hsim dst (by unfold RV; trivial) hin

theorem data_rv {x : AV} {us : List Value} (h : RA S w x us) {ti : TI} (hagg : isAggA x = ti.isAgg) : ∃ u, RV S w s.hp B V x u ∧ (if ti.isAgg then Value.agg us.toArray else us.headD undef) = u ∧ (ti.isAgg = false → us.length = 1) := by
  obtain ⟨h1, h2⟩ := RV.ofRA (hp := s.hp) (B := B) (V := V) h
  rw [← hagg]
  cases hx : isAggA x with
  | true => exact ⟨_, h1 hx, rfl, by simp⟩
  | false =>
    obtain ⟨u, e, hu⟩ := h2 hx
    exact ⟨u, hu, by rw [e]; rfl, fun _ => by rw [e]; rfl⟩

theorem pre_load (hΘ : TabOK P Θ) (hn : a.tmps.size = n) (hdf : a.defers = []) (h : SimW W M S0 s a.tmps w S B V) {dst : Option Tmp} {t : TypeId} {x : Operand} {ty : TypeId} {pos : String} {after : Array Edge} {guard : Option (Nat × Bool)} {e : Eff}
    (hp : Pre P Θ ⟨dst, .load t x, ty, pos, after, guard⟩ s e) (hin : inN n dst = true) (hK : ∀ a' w', Sim W M S0 n (s.app dst e) a' w' → K a' w') : (⟨dst, .load t x, ty, pos, after, guard⟩ : Oper).wp P a w K Q := by
  simp only [Pre] at hp
  obtain ⟨hk, hp⟩ := hp
  obtain ⟨i0, hi0, hs0, hag, _⟩ := ti_info (hΘ t) hk
  rcases hp with ⟨y, hx, hagg, hsz, rfl⟩ | ⟨l, i, p, c, ob, y, z, hx, ho, hq, hg, hagg, hsz, rfl⟩
  · have hv := ev_tmp h hx (fun c => by simp)
    unfold RV at hv
    obtain ⟨b, off, us, e, hb, hr, hc⟩ := hv
    obtain ⟨u, hu, eu, h1⟩ := data_rv (s := s) (B := B) (V := V) hr hagg
    have hrun := run_load_at (P := P) (w := w) t hi0 (by rw [hs0, ← hsz]; exact (RA.size _ _ hr).symm) hc (hag w) h1
    rw [eu] at hrun
    exact pure_step hn hdf h (by simp only [execOp, e, Sem.run_bind, hrun, Result.andThen_ok, Sem.run_pure]) hu hin hK
  · have hv := ev_tmp h hx (fun c => by simp)
    unfold RV at hv
    obtain ⟨ob', ho', hpx⟩ := hv
    rw [ho] at ho'; cases ho'
    have hne : ob.xs ≠ [] := fun e => by rw [e] at hq; simp at hq
    obtain ⟨cs, cap, cur, hr, ha, hV, hb, hns, hheap, hc, hm, hs, ht⟩ := (h.hp l ob ho).block hne
    obtain ⟨qs, k1, k2, k3, k4⟩ := RL.at i hr hq
    obtain ⟨ws, m1, m2, m3, m4⟩ := getP_at p y qs 0 c z k1 hg
    have hilt : i < ob.xs.length := (List.getElem?_eq_some_iff.1 hq).1
    have hpre : aszs (ob.xs.take i) = i * ob.sz := by rw [aszs_const (fun x hx' => ha x (List.mem_of_mem_take hx')), List.length_take, Nat.min_eq_left (by omega)]
    have hcell : ∀ j u, ws[j]? = some u → w.cell? ⟨B l, i * ob.sz + c + j, none⟩ = some u := fun j u hu => by
      have h1 := k4 _ _ (m4 j u hu)
      rw [hpre, Nat.sub_zero, ← Nat.add_assoc, ← ht, List.getElem?_take] at h1
      rw [cell_of_row w (B l) (i * ob.sz + c + j) cur ob.e (0, 0) hheap]
      split at h1
      · simpa using h1
      · cases h1
    obtain ⟨u, hu, eu, h1⟩ := data_rv (s := s) (B := B) (V := V) m2 hagg
    have hrun := run_load_at (P := P) (w := w) t hi0 (by rw [hs0, ← hsz]; exact (RA.size _ _ m2).symm) hcell (hag w) h1
    rw [eu] at hrun
    exact pure_step hn hdf h (by simp only [execOp, hpx, Sem.run_bind, hrun, Result.andThen_ok, Sem.run_pure]) hu hin hK

theorem pre_field (hΘ : TabOK P Θ) (hn : a.tmps.size = n) (hdf : a.defers = []) (h : SimW W M S0 s a.tmps w S B V) {dst : Option Tmp} {t : TypeId} {x : Operand} {f : Nat} {ty : TypeId} {pos : String} {after : Array Edge} {guard : Option (Nat × Bool)} {e : Eff}
    (hp : Pre P Θ ⟨dst, .fieldAddr t x f, ty, pos, after, guard⟩ s e) (hin : inN n dst = true) (hK : ∀ a' w', Sim W M S0 n (s.app dst e) a' w' → K a' w') : (⟨dst, .fieldAddr t x f, ty, pos, after, guard⟩ : Oper).wp P a w K Q := by
  simp only [Pre] at hp
  obtain ⟨fs, z, o_, z_, ht, hf, hp⟩ := hp
  have hT := hΘ t
  rw [ht] at hT
  rcases hp with ⟨ys, y, hx, hy, hsum, rfl⟩ | ⟨l, i, p, c, hx, rfl⟩
  · have hv := ev_tmp h hx (fun c => by simp)
    unfold RV at hv
    obtain ⟨b, off, us, e, hb, hr, hc⟩ := hv
    have hrun := run_fieldAt (P := P) (w := w) hT hf b off
    unfold RA at hr
    obtain ⟨ws, k1, k2, k3, k4⟩ := RL.at f hr hy
    refine pure_step (x := .ptr y) (v := .pointer (some ⟨b, off + o_, none⟩)) hn hdf h (by simp only [execOp, e, Sem.run_bind, hrun, Result.andThen_ok, Sem.run_pure]) ?_ hin hK
    unfold RV
    exact ⟨b, off + o_, ws, rfl, hb, k1, fun j u hu => by have := hc _ _ (k4 j u hu); rwa [hsum, ← Nat.add_assoc] at this⟩
  · have hv := ev_tmp h hx (fun c => by simp)
    unfold RV at hv
    obtain ⟨ob, ho, e⟩ := hv
    have hrun := run_fieldAt (P := P) (w := w) hT hf (B l) (i * ob.sz + c)
    refine pure_step (x := .optr l i (p ++ [f]) (c + o_)) (v := .pointer (some ⟨B l, i * ob.sz + c + o_, none⟩)) hn hdf h (by simp only [execOp, e, Sem.run_bind, hrun, Result.andThen_ok, Sem.run_pure]) ?_ hin hK
    unfold RV
    exact ⟨ob, ho, by rw [Nat.add_assoc]⟩

theorem pre_index (hΘ : TabOK P Θ) (hn : a.tmps.size = n) (hdf : a.defers = []) (h : SimW W M S0 s a.tmps w S B V) {dst : Option Tmp} {t : TypeId} {x ix : Operand} {ty : TypeId} {pos : String} {after : Array Edge} {guard : Option (Nat × Bool)} {e : Eff}
    (hp : Pre P Θ ⟨dst, .indexAddr t x ix, ty, pos, after, guard⟩ s e) (hin : inN n dst = true) (hK : ∀ a' w', Sim W M S0 n (s.app dst e) a' w' → K a' w') : (⟨dst, .indexAddr t x ix, ty, pos, after, guard⟩ : Oper).wp P a w K Q := by
  simp only [Pre] at hp
  obtain ⟨el, sz, b, z, k, j, ht, hix, hp⟩ := hp
  have hT := hΘ t
  rw [ht] at hT
  have hei := ev_int h hix
  rcases hp with ⟨xs, y, hx, hy, rfl⟩ | ⟨l, ob, hx, ho, hsz, hj, rfl⟩
  · have hv := ev_tmp h hx (fun c => by simp)
    unfold RV at hv
    unfold RA at hv
    obtain ⟨A, c, e, h1, h2, h3, h0, h4⟩ := hv
    simp only [List.cons.injEq, and_true] at e
    have hj : j < xs.length := (List.getElem?_eq_some_iff.1 hy).1
    rcases h4 with h4 | ⟨b', off, us, rfl, hb', hr, hc⟩
    · rw [h4] at hj; simp at hj
    have hrun := run_indexAt (P := P) (w := w) hT (k := k) (A := ⟨b', off, none⟩) (c := c) hj
    rw [add_off] at hrun
    obtain ⟨ws, k1, k2, k3, k4⟩ := RL.at j hr hy
    have hpre : aszs (xs.take j) = j * sz := by rw [aszs_const (fun x hx' => h3 x (List.mem_of_mem_take hx')), List.length_take, Nat.min_eq_left (by omega)]
    refine pure_step (x := .ptr y) (v := .pointer (some ⟨b', off + j * sz, none⟩)) hn hdf h (by simp only [execOp, e, hei, Sem.run_bind, hrun, Result.andThen_ok, Sem.run_pure]) ?_ hin hK
    unfold RV
    exact ⟨b', off + j * sz, ws, rfl, hb', k1, fun i u hu => by have := hc _ _ (k4 i u hu); rwa [hpre, ← Nat.add_assoc] at this⟩
  · have hv := ev_tmp h hx (fun c => by simp)
    unfold RV at hv
    obtain ⟨_, e⟩ := hv
    have hne : ob.xs ≠ [] := fun e' => by rw [e'] at hj; simp at hj
    obtain ⟨cs, cap, cur, hr, ha, hV, _⟩ := (h.hp l ob ho).block hne
    have hrun := run_indexAt (P := P) (w := w) hT (k := k) (A := ⟨B l, 0, none⟩) (c := cap) hj
    rw [add_off] at hrun
    refine pure_step (x := .optr l j [] 0) (v := .pointer (some ⟨B l, 0 + j * sz, none⟩)) hn hdf h (by simp only [execOp, e, hV, hei, Sem.run_bind, hrun, Result.andThen_ok, Sem.run_pure]) ?_ hin hK
    unfold RV
    exact ⟨ob, ho, by rw [hsz, Nat.zero_add, Nat.add_zero]⟩

theorem parts_asz {S : Nat → Prop} {w : World} : ∀ (ps : List (Nat × Operand)) (z : List AV) (sz : Nat), (∀ x ∈ z, asz x = sz) → partsOK s z ps → (∀ x ∈ setParts s z ps, asz x = sz) ∧ (setParts s z ps).length = z.length
  | [], z, sz, h, _ => ⟨h, rfl⟩
  | (i, x) :: ps, z, sz, h, hp => by
    obtain ⟨⟨y, hy, hsz⟩, hd, hp'⟩ := hp
    have := parts_asz (S := S) (w := w) ps (z.set i (s.dat (s.ev x))) sz (fun q hq => by
      rcases List.mem_or_eq_of_mem_set hq with hq | rfl
      · exact h q hq
      · rw [hsz]; exact h y (List.mem_of_getElem? hy)) hp'
    exact ⟨this.1, by rw [setParts, this.2]; simp⟩

theorem pre_build (hΘ : TabOK P Θ) (hn : a.tmps.size = n) (hdf : a.defers = []) (h : SimW W M S0 s a.tmps w S B V) {dst : Option Tmp} {t : TypeId} {ps : Array (Nat × Operand)} {ty : TypeId} {pos : String} {after : Array Edge} {guard : Option (Nat × Bool)} {e : Eff}
    (hp : Pre P Θ ⟨dst, .build t ps, ty, pos, after, guard⟩ s e) (hin : inN n dst = true) (hK : ∀ a' w', Sim W M S0 n (s.app dst e) a' w' → K a' w') : (⟨dst, .build t ps, ty, pos, after, guard⟩ : Oper).wp P a w K Q := by
  simp only [Pre] at hp
  obtain ⟨fs, z, ht, hps, rfl⟩ := hp
  have hT := hΘ t
  rw [ht] at hT
  obtain ⟨S', m, h', r, f, g⟩ := frzL_sim (ownsOf s (ps.toList.map (·.2))) h
  obtain ⟨cs, hrun, hrl⟩ := run_build_gen (P := P) (w := w) (a := a) hT ps (S := S') (fun x hx hd => dat_ra h m r (List.mem_map.2 ⟨x, hx, rfl⟩) hd) hps
  refine wp_value (v := .agg cs) (w1 := w) (by simp only [execOp, Sem.run_bind, hrun, Result.andThen_ok, Sem.run_pure]) (hK _ _ ?_)
  have hrv : RV S' w (frzL (ownsOf s (ps.toList.map (·.2))) s).hp B V (.agg (setParts s z ps.toList)) (.agg cs) := by unfold RV; exact ⟨cs.toList, by simp, hrl⟩
  have heq : s.app dst ⟨.agg (setParts s z ps.toList), frzU (ownsOf s (ps.toList.map (·.2)))⟩ = (frzL (ownsOf s (ps.toList.map (·.2))) s).put dst (.agg (setParts s z ps.toList)) := by
    unfold St.app frzU
    cases ownsOf s (ps.toList.map (·.2)) <;> rfl
  rw [heq]
  exact Sim.put hn hdf h' dst hrv hin

theorem ownsAll {z : AV} {sz : Nat} {k : Nat} (h : asz z = sz) : ∀ x ∈ List.replicate k z, asz x = sz := fun x hx => by rw [(List.mem_replicate.1 hx).2]; exact h

theorem pre_buildSlice (hΘ : TabOK P Θ) (hn : a.tmps.size = n) (hdf : a.defers = []) (h : SimW W M S0 s a.tmps w S B V) {dst : Option Tmp} {t : TypeId} {m : Nat} {ps : Array (Nat × Operand)} {ty : TypeId} {pos : String} {after : Array Edge} {guard : Option (Nat × Bool)} {e : Eff}
    (hp : Pre P Θ ⟨dst, .buildSlice t m ps, ty, pos, after, guard⟩ s e) (hin : inN n dst = true) (hK : ∀ a' w', Sim W M S0 n (s.app dst e) a' w' → K a' w') : (⟨dst, .buildSlice t m ps, ty, pos, after, guard⟩ : Oper).wp P a w K Q := by
  simp only [Pre] at hp
  obtain ⟨d, el, sz, b, z, rfl, hf, ht, hsmall, hps, rfl⟩ := hp
  have hT := hΘ t
  rw [ht] at hT
  obtain ⟨hu, _, i, zv, hi, hz, hs, hby, h0, hasz, hzr⟩ := hT
  obtain ⟨S', mm, h', r, f, g⟩ := frzL_sim (ownsOf s (ps.toList.map (·.2))) h
  have hzr' : RA S' w z zv.cells.toList := RA.of_noS (hzr w)
  have hmade := made_sound hzr' hasz h0 m
  have hall : ∀ x ∈ ps.toList, isDataA (s.dat (s.ev x.2)) = true → RA S' w (s.dat (s.ev x.2)) (a.eval x.2).cells.toList := fun x hx hd => dat_ra h mm r (List.mem_map.2 ⟨x, hx, rfl⟩) hd
  obtain ⟨cells', hfill, hrl⟩ := fill_sound (place := fun i => some (i * sz, sz)) (a := a) ps.toList (List.replicate m z) (madeCells zv.cells (m * sz)) hall hmade hps (fun i y hy => by
    have hy' := List.mem_of_getElem? hy
    rw [ownsAll hasz y hy', aszs_const (sz := sz) (fun x hx => ownsAll hasz x (List.mem_of_mem_take hx)), List.length_take, Nat.min_eq_left (Nat.le_of_lt (List.getElem?_eq_some_iff.1 hy).1)])
  have hrun : (Instr.buildSlice t m (ps.map fun (i, x) => (i, a.eval x))).run P w = .ok (.slice (some ⟨w.heap.size, 0, none⟩) m m) (w.alloc (.cells cells' el)) := by
    have hmap : (ps.map fun (i, x) => (i, a.eval x)).toList = ps.toList.map fun x => (x.1, a.eval x.2) := by simp
    have hns : ¬ 2 ^ 24 < m * sz := by omega
    by_cases hm0 : m * sz = 0
    · have hm0' : m = 0 := by
        rcases Nat.eq_zero_or_pos m with e | e
        · exact e
        · have := Nat.mul_pos e h0; omega
      have hpe : ps.toList = [] := by
        cases hq : ps.toList with
        | nil => rfl
        | cons q r =>
          obtain ⟨i', x'⟩ := q
          rw [hq, hm0'] at hps
          obtain ⟨⟨y, hy, _⟩, _⟩ := hps
          simp at hy
      have hpe' : ps = #[] := by cases ps; simp_all
      subst hpe'
      subst hm0'
      have hz0 : madeCells zv.cells (0 * sz) = #[] := by simp [madeCells]
      rw [hz0] at hfill
      simp [Instr.fill] at hfill
      subst hfill
      simp [Instr.buildSlice, run_underlying hu, sizeOf, typeInfo, hi, newRow, Instr.fill, Array.range_zero']
    · rw [← hs] at hfill hm0 hns
      exact run_buildSlice w t el m _ cells' i zv hu hi hz (by omega) hm0 (by rw [hmap]; exact hfill)
  obtain ⟨hpa, hpl⟩ := parts_asz (S := S') (w := w) ps.toList (List.replicate m z) sz (ownsAll hasz) hps
  have hml : m ≤ maxLen := by
    have : m * 1 ≤ m * sz := Nat.mul_le_mul_left _ h0
    unfold maxLen; omega
  have hsim := newRow_sim h' (Nat.succ_ne_zero d) (f (d + 1) hf) (t := el) (cs := cells') hrl hpa h0 (by rw [hpl]; simp) hml
  refine wp_value (v := .slice (some ⟨w.heap.size, 0, none⟩) m m) (w1 := w.alloc (.cells cells' el)) (by show (do pure (Next.value (← Instr.buildSlice t m (ps.map fun (i, x) => (i, a.eval x)))) : Sem Next).run P w = _; rw [Sem.run_bind, hrun]; rfl) (hK _ _ ?_)
  refine Sim.put hn hdf hsim (some d) ?_ hin
  unfold RV
  exact ⟨⟨_, set_hp⟩, by rw [upd_same]⟩

theorem pre_make (hΘ : TabOK P Θ) (hn : a.tmps.size = n) (hdf : a.defers = []) (h : SimW W M S0 s a.tmps w S B V) {dst : Option Tmp} {t : TypeId} {l c : Operand} {ty : TypeId} {pos : String} {after : Array Edge} {guard : Option (Nat × Bool)} {e : Eff}
    (hp : Pre P Θ ⟨dst, .makeSlice t l c, ty, pos, after, guard⟩ s e) (hin : inN n dst = true) (hK : ∀ a' w', Sim W M S0 n (s.app dst e) a' w' → K a' w') : (⟨dst, .makeSlice t l c, ty, pos, after, guard⟩ : Oper).wp P a w K Q := by
  simp only [Pre] at hp
  obtain ⟨d, el, sz, b, z, m, k, k', rfl, hf, ht, hl, hc, hb, h63, rfl⟩ := hp
  have hT := hΘ t
  rw [ht] at hT
  obtain ⟨hu, _, i, zv, hi, hz, hs, hby, h0, hasz, hzr⟩ := hT
  have hzr' : RA S w z zv.cells.toList := RA.of_noS (hzr w)
  have hmade := made_sound hzr' hasz h0 m
  have hbi : (i.bytes : Int) * (m : Int) ≤ 281474976710656 := by
    have : ((i.bytes * m : Nat) : Int) ≤ 281474976710656 := by rw [hby]; omega
    rwa [Int.natCast_mul] at this
  have hrun := run_make (P := P) w t el i zv hu hi hz k k' m m (by omega) (by omega) hbi (by omega)
  simp only [Int.toNat_natCast, hs] at hrun
  have hsim := newRow_sim h (Nat.succ_ne_zero d) hf (t := el) hmade (ownsAll hasz) h0 (m := m) (by simp) (by unfold maxLen; omega)
  refine wp_value (v := .slice (some ⟨w.heap.size, 0, none⟩) m m) (w1 := w.alloc (.cells (madeCells zv.cells (m * sz)) el)) (by simp only [execOp, ev_int h hl, ev_int h hc, Sem.run_bind, hrun, Result.andThen_ok, Sem.run_pure]) (hK _ _ ?_)
  refine Sim.put hn hdf hsim (some d) ?_ hin
  unfold RV
  exact ⟨⟨_, set_hp⟩, by rw [upd_same]⟩

theorem pre_alloc (hΘ : TabOK P Θ) (hn : a.tmps.size = n) (hdf : a.defers = []) (h : SimW W M S0 s a.tmps w S B V) {dst : Option Tmp} {t : TypeId} {ty : TypeId} {pos : String} {after : Array Edge} {guard : Option (Nat × Bool)} {e : Eff}
    (hp : Pre P Θ ⟨dst, .alloc t, ty, pos, after, guard⟩ s e) (hin : inN n dst = true) (hK : ∀ a' w', Sim W M S0 n (s.app dst e) a' w' → K a' w') : (⟨dst, .alloc t, ty, pos, after, guard⟩ : Oper).wp P a w K Q := by
  simp only [Pre] at hp
  obtain ⟨d, rfl, hf, hk, rfl⟩ := hp
  obtain ⟨i0, hi0, hs0, _, ⟨zv, hz, hzr⟩, hasz, hpos⟩ := ti_info (hΘ t) hk
  have hsim := newRow_sim h (Nat.succ_ne_zero d) hf (t := t) (cs := zv.cells) (RL.sing (RA.of_noS (hzr w))) (by simpa using hasz) hpos rfl (by simp [maxLen])
  refine wp_value (v := .pointer (some ⟨w.heap.size, 0, none⟩)) (w1 := w.alloc (.cells zv.cells t)) (by simp only [execOp, Sem.run_bind, run_alloc hi0 hz, Result.andThen_ok, Sem.run_pure]) (hK _ _ ?_)
  refine Sim.put hn hdf hsim (some d) ?_ hin
  unfold RV
  exact ⟨_, set_hp, by rw [upd_same]; simp⟩

theorem pre_box (hΘ : TabOK P Θ) (hn : a.tmps.size = n) (hdf : a.defers = []) (h : SimW W M S0 s a.tmps w S B V) {dst : Option Tmp} {t : TypeId} {x : Operand} {ty : TypeId} {pos : String} {after : Array Edge} {guard : Option (Nat × Bool)} {e : Eff}
    (hp : Pre P Θ ⟨dst, .box t x, ty, pos, after, guard⟩ s e) (hin : inN n dst = true) (hK : ∀ a' w', Sim W M S0 n (s.app dst e) a' w' → K a' w') : (⟨dst, .box t x, ty, pos, after, guard⟩ : Oper).wp P a w K Q := by
  simp only [Pre] at hp
  obtain ⟨d, rfl, hf, hk, hsz, hd, rfl⟩ := hp
  obtain ⟨i0, hi0, hs0, _, _, _, hpos⟩ := ti_info (hΘ t) hk
  obtain ⟨S', mm, h', r, f, g⟩ := frzL_sim (ownsOf s [x]) h
  have hra := dat_ra h mm r (x := x) (by simp) hd
  have hsim := newRow_sim h' (Nat.succ_ne_zero d) (f (d + 1) hf) (t := t) (cs := (a.eval x).cells) (RL.sing hra) (by simpa using hsz) hpos rfl (by simp [maxLen])
  refine wp_value (v := .pointer (some ⟨w.heap.size, 0, none⟩)) (w1 := w.alloc (.cells (a.eval x).cells t)) (by simp only [execOp, Sem.run_bind, run_box, Result.andThen_ok, Sem.run_pure]) (hK _ _ ?_)
  refine Sim.put hn hdf hsim (some d) ?_ hin
  unfold RV
  exact ⟨_, set_hp, by rw [upd_same]; simp⟩
end
end Go.Proofs.Ytmafbodblpgcjaa.AM
/- The machine over data: append, len, calls of functions. -/
namespace Go.Proofs.Ytmafbodblpgcjaa.AM
open Go Go.RowKit

section
variable {P : Program} {Θ : Tab} {W : World} {M : Option Value} {S0 : Nat → Prop} {n : Nat} {s : St} {a : Act} {w : World} {S : Nat → Prop} {B : Nat → Nat} {V : Nat → Value} {tmps : Array Value}
variable {K : Act → World → Prop} {Q : Exit → Act → World → Prop}

theorem run_append_zero {t ty e : TypeId} {i : TypeInfo} (ht : P.underlying t = some (.slice e)) (hi : P.info? e = some i) {base sz m : Nat} {v : Value} {xs : List Value} (hown : w.ownsRow base e sz v m xs) (A : Option Addr) (c : Nat) :
    (Builtin.append_ #[t, t] ty #[v, .slice A 0 c]).run P w = .ok v w := by
  have hf : (Builtin.firstCells i.size 0 (.slice A 0 c)).run P w = .ok #[] w := by
    cases A with
    | none => simp [Builtin.firstCells]
    | some a => exact run_firstCells_some (P := P) w i.size 0 a 0 c [] (by simp) (by simp)
  rcases hown.2 with ⟨rfl, rfl⟩ | ⟨g, cap, cur, rfl, _, _, hc, _⟩
  · simp [Builtin.append_, run_underlying ht, sizeOf, typeInfo, hi, Builtin.lenOf, hf]
  · simp [Builtin.append_, run_underlying ht, sizeOf, typeInfo, hi, Builtin.lenOf, hf, hc, storeCells]

/-- append to a row that is owned, over data -/
theorem append_sim (h : SimW W M S0 s tmps w S B V) {t ty el : TypeId} {sz b : Nat} {z : AV} (hT : TIok P t (.slice el sz b z)) {l : Nat} {ob : OB} (hl0 : l ≠ 0) (ho : s.hp l = some ob) (he : ob.e = el) (hz : ob.sz = sz) {ys : List AV} {A : Option Addr} {c : Nat} (hya : ∀ x ∈ ys, asz x = sz)
    (hy : ys = [] ∨ ∃ ad us, A = some ad ∧ RL S w ys us ∧ ∀ j u, us[j]? = some u → w.cell? (ad.add j) = some u) (hb : (ob.xs.length + ys.length) * b ≤ 140737488355328) (hm : ob.xs.length + ys.length ≤ maxLen) :
    ∃ v' w1 B' V', (Builtin.append_ #[t, t] ty #[V l, .slice A ys.length c]).run P w = .ok v' w1 ∧ SimW W M S0 ((s.kill l).set l (some ⟨el, sz, ob.xs ++ ys⟩)) tmps w1 S B' V' ∧ V' l = v' := by
  obtain ⟨hu, _, i, zv, hi, hzv, hs, hby, h0, hasz, hzr⟩ := hT
  have hro := h.hp l ob ho
  obtain ⟨cs, r1, r2, r3, r4, r5⟩ := hro
  have hkill : ∀ t, AV.names l ((s.kill l).sl t) = false := fun t => by
    show AV.names l (bif (s.sl t).names l then .any else s.sl t) = false
    cases hn : (s.sl t).names l with
    | true => rfl
    | false => simpa using hn
  by_cases hys : ys = []
  · subst hys
    have hrun := run_append_zero (P := P) (w := w) (ty := ty) hu hi (he ▸ r4) A c
    refine ⟨V l, w, B, V, hrun, ⟨h.below, h.s0, h.slt, fun t => ?_, fun l' ob' ho' => ?_, fun l1 l2 o1 o2 g h1 h2 => ?_, fun l1 o1 g h1 => ?_, h.pin, h.mps_upd (fun _ _ => rfl) (fun _ _ => rfl) (Nat.le_refl _) (fun _ _ _ => rfl) (fun g hg hs _ => hs) (fun g hg hp => hp l ob ho)⟩, rfl⟩
    · have hk := hkill t
      show RV S w (fun j => bif Nat.beq j l then some ⟨el, sz, ob.xs ++ []⟩ else s.hp j) B V ((s.kill l).sl t) _
      have ht := h.sl t
      have hcar : RV S w s.hp B V ((s.kill l).sl t) (tmps.getD t undef) := by
        show RV S w s.hp B V (bif (s.sl t).names l then .any else s.sl t) _
        cases (s.sl t).names l with
        | true => simp only [cond_true]; unfold RV; trivial
        | false => exact ht
      refine RV.carry (fun _ h => h) (fun _ _ => rfl) _ _ (fun l' ob' hn ho' => ⟨ob', ?_, rfl, rfl, rfl⟩) hcar
      have hne : l' ≠ l := fun e => by rw [e, hk] at hn; cases hn
      simp [nbne hne, ho']
    · by_cases e : l' = l
      · subst e
        have : ob' = ⟨el, sz, ob.xs ++ []⟩ := by simpa [St.set] using ho'.symm
        subst this
        simp only [List.append_nil]
        exact ⟨cs, r1, hz ▸ r2, hz ▸ r3, by rw [← he, ← hz]; exact r4, r5⟩
      · exact h.hp l' ob' (by simpa [St.set, St.kill, nbne e] using ho')
    · have q1 : ∃ o, s.hp l1 = some o := by
        by_cases e : l1 = l
        · subst e; exact ⟨ob, ho⟩
        · exact ⟨o1, by simpa [St.set, St.kill, nbne e] using h1⟩
      have q2 : ∃ o, s.hp l2 = some o := by
        by_cases e : l2 = l
        · subst e; exact ⟨ob, ho⟩
        · exact ⟨o2, by simpa [St.set, St.kill, nbne e] using h2⟩
      obtain ⟨p1, q1⟩ := q1
      obtain ⟨p2, q2⟩ := q2
      exact h.dist l1 l2 p1 p2 g q1 q2
    · by_cases e : l1 = l
      · subst e; exact h.mine l1 ob g ho
      · exact h.mine l1 o1 g (by simpa [St.set, St.kill, nbne e] using h1)
  · rcases hy with hy | ⟨ad, us, rfl, hr, hc⟩
    · exact absurd hy hys
    have hlen : 0 < ys.length := List.length_pos_iff.2 hys
    have hus := RL.size _ _ hr
    rw [aszs_const hya] at hus
    have hzs : zv.cells.size = sz := by rw [← Array.length_toList, RA.size _ _ (hzr w), hasz]
    obtain ⟨g, cap, w1, hrun, hown, hgr, hat, hlt⟩ := run_append_lies (P := P) w t ty 0 el i zv sz b hu hi hzv hs hby hzs h0 (V l) ob.xs.length cs (by rw [← he, ← hz]; exact r4) ad ys.length c us hus hc (RL.one _ _ hr) hlen hm hb (Nat.zero_le _) w.heap.size rfl
    have hng : ¬ S g := by
      rcases hat with hat | hat
      · exact (r5 g hat).2
      · exact fun hs => absurd (h.slt g hs).1 (by omega)
    have hw : ∀ b, S b → w1.heap[b]? = w.heap[b]? := fun b hs => hgr.block b (h.slt b hs).1 (fun e => (r5 b e.symm).2 hs)
    have hoth : ∀ l' ob' g', l' ≠ l → s.hp l' = some ob' → (V l').ownBlock = some g' → w1.heap[g']? = w.heap[g']? ∧ g' ≠ g := fun l' ob' g' hne ho' hg' => by
      have hlt' := ((h.hp l' ob' ho').lt g' hg').2
      refine ⟨hgr.block g' hlt' (fun e => hne (h.dist l' l ob' ob g' ho' ho hg' e.symm)), fun e => ?_⟩
      subst e
      rcases hat with hat | hat
      · exact hne (h.dist l' l ob' ob g' ho' ho hg' hat)
      · omega
    refine ⟨_, w1, upd B l g, upd V l (.slice (some ⟨g, 0, none⟩) (ob.xs.length + ys.length) cap), hrun, ⟨grown_trans h.below hgr (fun g' e hlt => (h.mine l ob g' ho e).resolve_left (by omega)), h.s0, fun b hs => ⟨Nat.lt_of_lt_of_le (h.slt b hs).1 hgr.size, (h.slt b hs).2⟩, fun t => ?_, fun l' ob' ho' => ?_, fun l1 l2 o1 o2 g' h1 h2 e1 e2 => ?_, fun l1 o1 g' h1 e1 => ?_, fun u hu => (upd_ne (Ne.symm hl0)).trans (h.pin u hu), h.mps_upd (fun _ hj => upd_ne hj) (fun _ hj => upd_ne hj) hgr.size (fun g' hg hp => hgr.block g' hg (fun e => hp l ob ho e.symm)) (fun g' hg hs _ => hs) (fun g' hg hp e => by
      rw [upd_same] at e
      simp [Value.ownBlock] at e
      subst e
      rcases hat with hat | hat
      · exact hp l ob ho hat
      · omega)⟩, upd_same⟩
    · have hk := hkill t
      have hcar : RV S w s.hp B V ((s.kill l).sl t) (tmps.getD t undef) := by
        show RV S w s.hp B V (bif (s.sl t).names l then .any else s.sl t) _
        cases (s.sl t).names l with
        | true => simp only [cond_true]; unfold RV; trivial
        | false => exact h.sl t
      refine RV.carry (fun _ h => h) hw _ _ (fun l' ob' hn ho' => ?_) hcar
      have hne : l' ≠ l := fun e => by rw [e] at hn; exact absurd (hk.symm.trans hn) (by simp)
      exact ⟨ob', by simp [St.set, St.kill, nbne hne, ho'], rfl, upd_ne hne, upd_ne hne⟩
    · by_cases e : l' = l
      · subst e
        have : ob' = ⟨el, sz, ob.xs ++ ys⟩ := by simpa [St.set] using ho'.symm
        subst this
        rw [upd_same, upd_same]
        refine ⟨cs ++ us, RL.mono (fun _ h => h) hw _ _ (RL.app r1 hr), fun x hx => ?_, h0, by simpa using hown, fun g' hg' => ?_⟩
        · rcases List.mem_append.1 hx with hx | hx
          · rw [← hz]; exact r2 x hx
          · exact hya x hx
        · simp [Value.ownBlock] at hg'; subst hg'; exact ⟨rfl, hng⟩
      · have ho2 : s.hp l' = some ob' := by simpa [St.set, St.kill, nbne e] using ho'
        rw [upd_ne e, upd_ne e]
        exact (h.hp l' ob' ho2).carry (fun _ h => h) hw (fun g' hg' => ⟨(hoth l' ob' g' e ho2 hg').1, id⟩)
    · by_cases e : l1 = l
      · by_cases e' : l2 = l
        · rw [e, e']
        · subst e
          rw [upd_same] at e1; rw [upd_ne e'] at e2
          have ho2 : s.hp l2 = some o2 := by simpa [St.set, St.kill, nbne e'] using h2
          simp [Value.ownBlock] at e1
          exact absurd e1.symm (hoth l2 o2 g' e' ho2 e2).2
      · have ho1 : s.hp l1 = some o1 := by simpa [St.set, St.kill, nbne e] using h1
        rw [upd_ne e] at e1
        by_cases e' : l2 = l
        · subst e'
          rw [upd_same] at e2
          simp [Value.ownBlock] at e2
          exact absurd e2.symm (hoth l1 o1 g' e ho1 e1).2
        · rw [upd_ne e'] at e2
          exact h.dist l1 l2 o1 o2 g' ho1 (by simpa [St.set, St.kill, nbne e'] using h2) e1 e2
    · by_cases e : l1 = l
      · subst e
        rw [upd_same] at e1
        simp [Value.ownBlock] at e1
        subst e1
        rcases hat with hat | hat
        · exact h.mine l1 ob g ho hat
        · exact .inl (by have := h.below.size; omega)
      · rw [upd_ne e] at e1
        exact h.mine l1 o1 g' (by simpa [St.set, St.kill, nbne e] using h1) e1

theorem pre_append (hΘ : TabOK P Θ) (hn : a.tmps.size = n) (hdf : a.defers = []) (h : SimW W M S0 s a.tmps w S B V) {dst : Option Tmp} {ags : Array Operand} {ts : Array TypeId} {ty : TypeId} {pos : String} {after : Array Edge} {guard : Option (Nat × Bool)} {e : Eff}
    (hp : Pre P Θ ⟨dst, .call ⟨.builtin .append, ags, ts⟩, ty, pos, after, guard⟩ s e) (hin : inN n dst = true) (hK : ∀ a' w', Sim W M S0 n (s.app dst e) a' w' → K a' w') : (⟨dst, .call ⟨.builtin .append, ags, ts⟩, ty, pos, after, guard⟩ : Oper).wp P a w K Q := by
  simp only [Pre] at hp
  obtain ⟨x, y, t, el, sz, b, z, l, ob, ys, rfl, rfl, ht, hx, ho, hl0, he, hz, hy, hb, hm, rfl⟩ := hp
  have hT := hΘ t
  rw [ht] at hT
  have hvx := ev_tmp h hx (fun c => by simp)
  unfold RV at hvx
  obtain ⟨_, ex⟩ := hvx
  have hsrc : ∃ A c, a.eval y = .slice A ys.length c ∧ (∀ x ∈ ys, asz x = sz) ∧ (ys = [] ∨ ∃ ad us, A = some ad ∧ RL S w ys us ∧ ∀ j u, us[j]? = some u → w.cell? (ad.add j) = some u) := by
    rcases hy with hy | ⟨l', ob', hy, hne, ho', hz', rfl⟩
    · have hv := ev_tmp h hy (fun c => by simp)
      unfold RV at hv
      unfold RA at hv
      obtain ⟨A, c, e, _, _, h3, _, h4⟩ := hv
      simp only [List.cons.injEq, and_true] at e
      refine ⟨A, c, e, h3, ?_⟩
      rcases h4 with h4 | ⟨b', off, us, rfl, _, hr, hc⟩
      · exact .inl h4
      · exact .inr ⟨_, us, rfl, hr, fun j u hu => by rw [add_off]; exact hc j u hu⟩
    · have hv := ev_tmp h hy (fun c => by simp)
      unfold RV at hv
      obtain ⟨_, e⟩ := hv
      have hro := h.hp l' ob' ho'
      by_cases hne' : ob'.xs = []
      · obtain ⟨cs, _, r2, _, r4, _⟩ := hro
        rcases r4.2 with ⟨hv0, hl0⟩ | ⟨g, cap, cur, hv0, _⟩
        · exact ⟨none, 0, by rw [e, hv0, hl0], hz' ▸ r2, .inl hne'⟩
        · exact ⟨_, cap, by rw [e, hv0], hz' ▸ r2, .inl hne'⟩
      · obtain ⟨cs, cap, cur, hr, ha, hV, _, _, hheap, _, _, _, hta⟩ := hro.block hne'
        refine ⟨_, cap, by rw [e, hV], hz' ▸ ha, .inr ⟨_, cs, rfl, hr, fun j u hu => ?_⟩⟩
        rw [add_off, cell_of_row w (B l') (0 + j) cur ob'.e (0, 0) hheap]
        rw [← hta, List.getElem?_take] at hu
        split at hu
        · simpa using hu
        · cases hu
  obtain ⟨A, c, ey, hya, hyr⟩ := hsrc
  obtain ⟨v', w1, B', V', hrun, hsim, hv'⟩ := append_sim (P := P) (ty := ty) h hT hl0 ho he hz (c := c) hya hyr hb hm
  refine wp_value (v := v') (w1 := w1) ?_ (hK _ _ ?_)
  · simp only [execOp, resolve, invoke, builtin, Sem.run_bind, Sem.run_pure, Result.andThen_ok, List.map_toArray, List.map_cons, List.map_nil, ex, ey, hrun]
  · refine Sim.put hn hdf hsim dst ?_ hin
    unfold RV
    exact ⟨⟨_, set_hp⟩, hv'.symm⟩

theorem pre_len (hΘ : TabOK P Θ) (hn : a.tmps.size = n) (hdf : a.defers = []) (h : SimW W M S0 s a.tmps w S B V) {dst : Option Tmp} {ags : Array Operand} {ts : Array TypeId} {ty : TypeId} {pos : String} {after : Array Edge} {guard : Option (Nat × Bool)} {e : Eff}
    (hp : Pre P Θ ⟨dst, .call ⟨.builtin .len, ags, ts⟩, ty, pos, after, guard⟩ s e) (hin : inN n dst = true) (hK : ∀ a' w', Sim W M S0 n (s.app dst e) a' w' → K a' w') : (⟨dst, .call ⟨.builtin .len, ags, ts⟩, ty, pos, after, guard⟩ : Oper).wp P a w K Q := by
  simp only [Pre] at hp
  obtain ⟨x, t, m, rfl, rfl, hl, hok, rfl⟩ := hp
  have hT := hΘ t
  have hrun : (Builtin.len_ #[t] ty #[a.eval x]).run P w = .ok (.int .i64 (m : Int)) w := by
    cases hx : s.ev x with
    | v c =>
      rw [hx] at hl hok
      rw [ev_int h hx]
      cases c <;> simp [lenOK] at hok
      simp [lenA] at hl
      rw [hok] at hT
      simp [Builtin.len_, run_underlying hT.1, goInt, hl]
    | lst sz xs =>
      rw [hx] at hl hok
      have hv := ev_tmp h hx (fun c => by simp)
      unfold RV at hv
      unfold RA at hv
      obtain ⟨A, c, e, _⟩ := hv
      simp only [List.cons.injEq, and_true] at e
      obtain ⟨el, sz', b, z, ht⟩ := hok
      rw [ht] at hT
      simp [lenA] at hl
      simp [Builtin.len_, run_underlying hT.1, goInt, e, hl]
    | own l =>
      rw [hx] at hl hok
      have hv := ev_tmp h hx (fun c => by simp)
      unfold RV at hv
      obtain ⟨⟨ob, ho⟩, e⟩ := hv
      obtain ⟨el, sz', b, z, ht⟩ := hok
      rw [ht] at hT
      simp [lenA, ho] at hl
      obtain ⟨cs, _, _, _, r4, _⟩ := h.hp l ob ho
      rcases r4.2 with ⟨hv0, hl0⟩ | ⟨g, cap, cur, hv0, _⟩
      · simp [Builtin.len_, run_underlying hT.1, goInt, e, hv0]; omega
      · simp [Builtin.len_, run_underlying hT.1, goInt, e, hv0, hl]
    | _ => rw [hx] at hl; simp [lenA] at hl
  refine pure_step (x := .v (.int .i64 (m : Int))) (v := .int .i64 (m : Int)) hn hdf h ?_ (one_list rfl) hin hK
  simp only [execOp, resolve, invoke, builtin, Sem.run_bind, Sem.run_pure, Result.andThen_ok, List.map_toArray, List.map_cons, List.map_nil, hrun]
end
end Go.Proofs.Ytmafbodblpgcjaa.AM
