/- The machine over data: the steps put together; append; calls. -/
import Derived.Test.YtciacgmdeaihlaaAm6
namespace Go.Proofs.Ytciacgmdeaihlaa.AM
open Go Go.RowKit

section
variable {P : Program} {Θ : Tab} {W : World} {M : Option Value} {S0 : Nat → Prop} {n : Nat} {s : St} {a : Act} {w : World} {S : Nat → Prop} {B : Nat → Nat} {V : Nat → Value} {tmps : Array Value}
variable {K : Act → World → Prop} {Q : Exit → Act → World → Prop}

theorem set_hp {s : St} {l : Nat} {o : Option OB} : (s.set l o).hp l = o := by simp [St.set]
theorem Sim.of {n : Nat} (hn : a.tmps.size = n) (hdf : a.defers = []) (h : SimW W M S0 s a.tmps w S B V) : Sim W M S0 n s a w := ⟨hn, hdf, S, B, V, h⟩

theorem pre_store (hΘ : TabOK P Θ) (hn : a.tmps.size = n) (hdf : a.defers = []) (h : SimW W M S0 s a.tmps w S B V) {dst : Option Tmp} {t : TypeId} {x y : Operand} {ty : TypeId} {pos : String} {after : Array Edge} {guard : Option (Nat × Bool)} {e : Eff}
    (hp : Pre P Θ ⟨dst, .store t x y, ty, pos, after, guard⟩ s e) (hin : inN n dst = true) (hK : ∀ a' w', Sim W M S0 n (s.app dst e) a' w' → K a' w') : (⟨dst, .store t x y, ty, pos, after, guard⟩ : Oper).wp P a w K Q := by
  simp only [Pre] at hp
  obtain ⟨l, i, p, c, ob, q, z, hx, ho, hq, hg, hsz, hk, hdz, hd, hnl, rfl⟩ := hp
  obtain ⟨i0, hi0, hs0, _⟩ := ti_info (hΘ t) hk
  have hpx := ev_tmp h hx (fun c => by simp)
  unfold RV at hpx
  obtain ⟨ob', ho', hpx⟩ := hpx
  rw [ho] at ho'; cases ho'
  obtain ⟨S', m, h', r, f, g⟩ := frzL_sim (ownsOf s [y]) h
  have hra := dat_ra h m r (x := y) (by simp) hd
  have hl : l ∉ ownsOf s [y] := fun hm => by simp at hnl; exact hnl hm
  have ho2 : (frzL (ownsOf s [y]) s).hp l = some ob := (g l hl).trans ho
  obtain ⟨w1, hrun, hsim⟩ := store_sim (P := P) h' ho2 (t := t) hq hg hra hdz rfl hi0 (by rw [hs0, hsz])
  refine wp_skipped (w1 := w1) ?_ (hK _ _ ?_)
  · simp only [execOp, hpx, Sem.run_bind, hrun, Result.andThen_ok, Sem.run_pure]
  · exact Sim.put hn hdf hsim dst (by unfold RV; trivial) hin

theorem data_rv {x : AV} {us : List Value} (h : RA S w x us) {ti : TI} (hagg : isAggA x = ti.isAgg) : ∃ u, RV S w s.hp B V x u ∧ (if ti.isAgg then Value.agg us.toArray else us.headD undef) = u ∧ (ti.isAgg = false → us.length = 1) := by
  obtain ⟨h1, h2⟩ := RV.ofRA (hp := s.hp) (B := B) (V := V) h
  rw [← hagg]
  cases hx : isAggA x with
  | true => exact ⟨_, h1 hx, rfl, by simp⟩
  | false =>
    obtain ⟨u, e, hu⟩ := h2 hx
    exact ⟨u, hu, by rw [e]; rfl, fun _ => by rw [e]; rfl⟩

theorem pre_load (hΘ : TabOK P Θ) (hn : a.tmps.size = n) (hdf : a.defers = []) (h : SimW W M S0 s a.tmps w S B V) {dst : Option Tmp} {t : TypeId} {x : Operand} {ty : TypeId} {pos : String} {after : Array Edge} {guard : Option (Nat × Bool)} {e : Eff}
    (hp : Pre P Θ ⟨dst, .load t x, ty, pos, after, guard⟩ s e) (hin : inN n dst = true) (hK : ∀ a' w', Sim W M S0 n (s.app dst e) a' w' → K a' w') : (⟨dst, .load t x, ty, pos, after, guard⟩ : Oper).wp P a w K Q := by
  simp only [Pre] at hp
  obtain ⟨hk, hp⟩ := hp
  obtain ⟨i0, hi0, hs0, hag, _⟩ := ti_info (hΘ t) hk
  rcases hp with ⟨y, hx, hagg, hsz, rfl⟩ | ⟨l, i, p, c, ob, y, z, hx, ho, hq, hg, hagg, hsz, rfl⟩
  · have hv := ev_tmp h hx (fun c => by simp)
    unfold RV at hv
    obtain ⟨b, off, us, e, hb, hr, hc⟩ := hv
    obtain ⟨u, hu, eu, h1⟩ := data_rv (s := s) (B := B) (V := V) hr hagg
    have hrun := run_load_at (P := P) (w := w) t hi0 (by rw [hs0, ← hsz]; exact (RA.size _ _ hr).symm) hc (hag w) h1
    rw [eu] at hrun
    exact pure_step hn hdf h (by simp only [execOp, e, Sem.run_bind, hrun, Result.andThen_ok, Sem.run_pure]) hu hin hK
  · have hv := ev_tmp h hx (fun c => by simp)
    unfold RV at hv
    obtain ⟨ob', ho', hpx⟩ := hv
    rw [ho] at ho'; cases ho'
    have hne : ob.xs ≠ [] := fun e => by rw [e] at hq; simp at hq
    obtain ⟨cs, cap, cur, hr, ha, hV, hb, hns, hheap, hc, hm, hs, ht⟩ := (h.hp l ob ho).block hne
    obtain ⟨qs, k1, k2, k3, k4⟩ := RL.at i hr hq
    obtain ⟨ws, m1, m2, m3, m4⟩ := getP_at p y qs 0 c z k1 hg
    have hilt : i < ob.xs.length := (List.getElem?_eq_some_iff.1 hq).1
    have hpre : aszs (ob.xs.take i) = i * ob.sz := by rw [aszs_const (fun x hx' => ha x (List.mem_of_mem_take hx')), List.length_take, Nat.min_eq_left (by omega)]
    have hcell : ∀ j u, ws[j]? = some u → w.cell? ⟨B l, i * ob.sz + c + j, none⟩ = some u := fun j u hu => by
      have h1 := k4 _ _ (m4 j u hu)
      rw [hpre, Nat.sub_zero, ← Nat.add_assoc, ← ht, List.getElem?_take] at h1
      rw [cell_of_row w (B l) (i * ob.sz + c + j) cur ob.e (0, 0) hheap]
      split at h1
      · simpa using h1
      · cases h1
    obtain ⟨u, hu, eu, h1⟩ := data_rv (s := s) (B := B) (V := V) m2 hagg
    have hrun := run_load_at (P := P) (w := w) t hi0 (by rw [hs0, ← hsz]; exact (RA.size _ _ m2).symm) hcell (hag w) h1
    rw [eu] at hrun
    exact pure_step hn hdf h (by simp only [execOp, hpx, Sem.run_bind, hrun, Result.andThen_ok, Sem.run_pure]) hu hin hK

theorem pre_field (hΘ : TabOK P Θ) (hn : a.tmps.size = n) (hdf : a.defers = []) (h : SimW W M S0 s a.tmps w S B V) {dst : Option Tmp} {t : TypeId} {x : Operand} {f : Nat} {ty : TypeId} {pos : String} {after : Array Edge} {guard : Option (Nat × Bool)} {e : Eff}
    (hp : Pre P Θ ⟨dst, .fieldAddr t x f, ty, pos, after, guard⟩ s e) (hin : inN n dst = true) (hK : ∀ a' w', Sim W M S0 n (s.app dst e) a' w' → K a' w') : (⟨dst, .fieldAddr t x f, ty, pos, after, guard⟩ : Oper).wp P a w K Q := by
  simp only [Pre] at hp
  obtain ⟨fs, z, o_, z_, ht, hf, hp⟩ := hp
  have hT := hΘ t
  rw [ht] at hT
  rcases hp with ⟨ys, y, hx, hy, hsum, rfl⟩ | ⟨l, i, p, c, hx, rfl⟩
  · have hv := ev_tmp h hx (fun c => by simp)
    unfold RV at hv
    obtain ⟨b, off, us, e, hb, hr, hc⟩ := hv
    have hrun := run_fieldAt (P := P) (w := w) hT hf b off
    unfold RA at hr
    obtain ⟨ws, k1, k2, k3, k4⟩ := RL.at f hr hy
    refine pure_step (x := .ptr y) (v := .pointer (some ⟨b, off + o_, none⟩)) hn hdf h (by simp only [execOp, e, Sem.run_bind, hrun, Result.andThen_ok, Sem.run_pure]) ?_ hin hK
    unfold RV
    exact ⟨b, off + o_, ws, rfl, hb, k1, fun j u hu => by have := hc _ _ (k4 j u hu); rwa [hsum, ← Nat.add_assoc] at this⟩
  · have hv := ev_tmp h hx (fun c => by simp)
    unfold RV at hv
    obtain ⟨ob, ho, e⟩ := hv
    have hrun := run_fieldAt (P := P) (w := w) hT hf (B l) (i * ob.sz + c)
    refine pure_step (x := .optr l i (p ++ [f]) (c + o_)) (v := .pointer (some ⟨B l, i * ob.sz + c + o_, none⟩)) hn hdf h (by simp only [execOp, e, Sem.run_bind, hrun, Result.andThen_ok, Sem.run_pure]) ?_ hin hK
    unfold RV
    exact ⟨ob, ho, by rw [Nat.add_assoc]⟩

theorem pre_index (hΘ : TabOK P Θ) (hn : a.tmps.size = n) (hdf : a.defers = []) (h : SimW W M S0 s a.tmps w S B V) {dst : Option Tmp} {t : TypeId} {x ix : Operand} {ty : TypeId} {pos : String} {after : Array Edge} {guard : Option (Nat × Bool)} {e : Eff}
    (hp : Pre P Θ ⟨dst, .indexAddr t x ix, ty, pos, after, guard⟩ s e) (hin : inN n dst = true) (hK : ∀ a' w', Sim W M S0 n (s.app dst e) a' w' → K a' w') : (⟨dst, .indexAddr t x ix, ty, pos, after, guard⟩ : Oper).wp P a w K Q := by
  simp only [Pre] at hp
  obtain ⟨el, sz, b, z, k, j, ht, hix, hp⟩ := hp
  have hT := hΘ t
  rw [ht] at hT
  have hei := ev_int h hix
  rcases hp with ⟨xs, y, hx, hy, rfl⟩ | ⟨l, ob, hx, ho, hsz, hj, rfl⟩
  · have hv := ev_tmp h hx (fun c => by simp)
    unfold RV at hv
    unfold RA at hv
    obtain ⟨A, c, e, h1, h2, h3, h0, h4⟩ := hv
    simp only [List.cons.injEq, and_true] at e
    have hj : j < xs.length := (List.getElem?_eq_some_iff.1 hy).1
    rcases h4 with h4 | ⟨b', off, us, rfl, hb', hr, hc⟩
    · rw [h4] at hj; simp at hj
    have hrun := run_indexAt (P := P) (w := w) hT (k := k) (A := ⟨b', off, none⟩) (c := c) hj
    rw [add_off] at hrun
    obtain ⟨ws, k1, k2, k3, k4⟩ := RL.at j hr hy
    have hpre : aszs (xs.take j) = j * sz := by rw [aszs_const (fun x hx' => h3 x (List.mem_of_mem_take hx')), List.length_take, Nat.min_eq_left (by omega)]
    refine pure_step (x := .ptr y) (v := .pointer (some ⟨b', off + j * sz, none⟩)) hn hdf h (by simp only [execOp, e, hei, Sem.run_bind, hrun, Result.andThen_ok, Sem.run_pure]) ?_ hin hK
    unfold RV
    exact ⟨b', off + j * sz, ws, rfl, hb', k1, fun i u hu => by have := hc _ _ (k4 i u hu); rwa [hpre, ← Nat.add_assoc] at this⟩
  · have hv := ev_tmp h hx (fun c => by simp)
    unfold RV at hv
    obtain ⟨_, e⟩ := hv
    have hne : ob.xs ≠ [] := fun e' => by rw [e'] at hj; simp at hj
    obtain ⟨cs, cap, cur, hr, ha, hV, _⟩ := (h.hp l ob ho).block hne
    have hrun := run_indexAt (P := P) (w := w) hT (k := k) (A := ⟨B l, 0, none⟩) (c := cap) hj
    rw [add_off] at hrun
    refine pure_step (x := .optr l j [] 0) (v := .pointer (some ⟨B l, 0 + j * sz, none⟩)) hn hdf h (by simp only [execOp, e, hV, hei, Sem.run_bind, hrun, Result.andThen_ok, Sem.run_pure]) ?_ hin hK
    unfold RV
    exact ⟨ob, ho, by rw [hsz, Nat.zero_add, Nat.add_zero]⟩

theorem parts_asz {S : Nat → Prop} {w : World} : ∀ (ps : List (Nat × Operand)) (z : List AV) (sz : Nat), (∀ x ∈ z, asz x = sz) → partsOK s z ps → (∀ x ∈ setParts s z ps, asz x = sz) ∧ (setParts s z ps).length = z.length
  | [], z, sz, h, _ => ⟨h, rfl⟩
  | (i, x) :: ps, z, sz, h, hp => by
    obtain ⟨⟨y, hy, hsz⟩, hd, hp'⟩ := hp
    have := parts_asz (S := S) (w := w) ps (z.set i (s.dat (s.ev x))) sz (fun q hq => by
      rcases List.mem_or_eq_of_mem_set hq with hq | rfl
      · exact h q hq
      · rw [hsz]; exact h y (List.mem_of_getElem? hy)) hp'
    exact ⟨this.1, by rw [setParts, this.2]; simp⟩

theorem pre_build (hΘ : TabOK P Θ) (hn : a.tmps.size = n) (hdf : a.defers = []) (h : SimW W M S0 s a.tmps w S B V) {dst : Option Tmp} {t : TypeId} {ps : Array (Nat × Operand)} {ty : TypeId} {pos : String} {after : Array Edge} {guard : Option (Nat × Bool)} {e : Eff}
    (hp : Pre P Θ ⟨dst, .build t ps, ty, pos, after, guard⟩ s e) (hin : inN n dst = true) (hK : ∀ a' w', Sim W M S0 n (s.app dst e) a' w' → K a' w') : (⟨dst, .build t ps, ty, pos, after, guard⟩ : Oper).wp P a w K Q := by
  simp only [Pre] at hp
  obtain ⟨fs, z, ht, hps, rfl⟩ := hp
  have hT := hΘ t
  rw [ht] at hT
  obtain ⟨S', m, h', r, f, g⟩ := frzL_sim (ownsOf s (ps.toList.map (·.2))) h
  obtain ⟨cs, hrun, hrl⟩ := run_build_gen (P := P) (w := w) (a := a) hT ps (S := S') (fun x hx hd => dat_ra h m r (List.mem_map.2 ⟨x, hx, rfl⟩) hd) hps
  refine wp_value (v := .agg cs) (w1 := w) (by simp only [execOp, Sem.run_bind, hrun, Result.andThen_ok, Sem.run_pure]) (hK _ _ ?_)
  have hrv : RV S' w (frzL (ownsOf s (ps.toList.map (·.2))) s).hp B V (.agg (setParts s z ps.toList)) (.agg cs) := by unfold RV; exact ⟨cs.toList, by simp, hrl⟩
  have heq : s.app dst ⟨.agg (setParts s z ps.toList), frzU (ownsOf s (ps.toList.map (·.2)))⟩ = (frzL (ownsOf s (ps.toList.map (·.2))) s).put dst (.agg (setParts s z ps.toList)) := by
    unfold St.app frzU
    cases ownsOf s (ps.toList.map (·.2)) <;> rfl
  rw [heq]
  exact Sim.put hn hdf h' dst hrv hin

theorem ownsAll {z : AV} {sz : Nat} {k : Nat} (h : asz z = sz) : ∀ x ∈ List.replicate k z, asz x = sz := fun x hx => by rw [(List.mem_replicate.1 hx).2]; exact h

theorem pre_buildSlice (hΘ : TabOK P Θ) (hn : a.tmps.size = n) (hdf : a.defers = []) (h : SimW W M S0 s a.tmps w S B V) {dst : Option Tmp} {t : TypeId} {m : Nat} {ps : Array (Nat × Operand)} {ty : TypeId} {pos : String} {after : Array Edge} {guard : Option (Nat × Bool)} {e : Eff}
    (hp : Pre P Θ ⟨dst, .buildSlice t m ps, ty, pos, after, guard⟩ s e) (hin : inN n dst = true) (hK : ∀ a' w', Sim W M S0 n (s.app dst e) a' w' → K a' w') : (⟨dst, .buildSlice t m ps, ty, pos, after, guard⟩ : Oper).wp P a w K Q := by
  simp only [Pre] at hp
  obtain ⟨d, el, sz, b, z, rfl, hf, ht, hsmall, hps, rfl⟩ := hp
  have hT := hΘ t
  rw [ht] at hT
  obtain ⟨hu, _, i, zv, hi, hz, hs, hby, h0, hasz, hzr⟩ := hT
  obtain ⟨S', mm, h', r, f, g⟩ := frzL_sim (ownsOf s (ps.toList.map (·.2))) h
  have hzr' : RA S' w z zv.cells.toList := RA.of_noS (hzr w)
  have hmade := made_sound hzr' hasz h0 m
  have hall : ∀ x ∈ ps.toList, isDataA (s.dat (s.ev x.2)) = true → RA S' w (s.dat (s.ev x.2)) (a.eval x.2).cells.toList := fun x hx hd => dat_ra h mm r (List.mem_map.2 ⟨x, hx, rfl⟩) hd
  obtain ⟨cells', hfill, hrl⟩ := fill_sound (place := fun i => some (i * sz, sz)) (a := a) ps.toList (List.replicate m z) (madeCells zv.cells (m * sz)) hall hmade hps (fun i y hy => by
    have hy' := List.mem_of_getElem? hy
    rw [ownsAll hasz y hy', aszs_const (sz := sz) (fun x hx => ownsAll hasz x (List.mem_of_mem_take hx)), List.length_take, Nat.min_eq_left (Nat.le_of_lt (List.getElem?_eq_some_iff.1 hy).1)])
  have hrun : (Instr.buildSlice t m (ps.map fun (i, x) => (i, a.eval x))).run P w = .ok (.slice (some ⟨w.heap.size, 0, none⟩) m m) (w.alloc (.cells cells' el)) := by
    have hmap : (ps.map fun (i, x) => (i, a.eval x)).toList = ps.toList.map fun x => (x.1, a.eval x.2) := by simp
    have hns : ¬ 2 ^ 24 < m * sz := by omega
    by_cases hm0 : m * sz = 0
    · have hm0' : m = 0 := by
        rcases Nat.eq_zero_or_pos m with e | e
        · exact e
        · have := Nat.mul_pos e h0; omega
      have hpe : ps.toList = [] := by
        cases hq : ps.toList with
        | nil => rfl
        | cons q r =>
          obtain ⟨i', x'⟩ := q
          rw [hq, hm0'] at hps
          obtain ⟨⟨y, hy, _⟩, _⟩ := hps
          simp at hy
      have hpe' : ps = #[] := by cases ps; simp_all
      subst hpe'
      subst hm0'
      have hz0 : madeCells zv.cells (0 * sz) = #[] := by simp [madeCells]
      rw [hz0] at hfill
      simp [Instr.fill] at hfill
      subst hfill
      simp [Instr.buildSlice, run_underlying hu, sizeOf, typeInfo, hi, newRow, Instr.fill, Array.range_zero']
    · rw [← hs] at hfill hm0 hns
      exact run_buildSlice w t el m _ cells' i zv hu hi hz (by omega) hm0 (by rw [hmap]; exact hfill)
  obtain ⟨hpa, hpl⟩ := parts_asz (S := S') (w := w) ps.toList (List.replicate m z) sz (ownsAll hasz) hps
  have hml : m ≤ maxLen := by
    have : m * 1 ≤ m * sz := Nat.mul_le_mul_left _ h0
    unfold maxLen; omega
  have hsim := newRow_sim h' (Nat.succ_ne_zero d) (f (d + 1) hf) (t := el) (cs := cells') hrl hpa h0 (by rw [hpl]; simp) hml
  refine wp_value (v := .slice (some ⟨w.heap.size, 0, none⟩) m m) (w1 := w.alloc (.cells cells' el)) (by show (do pure (Next.value (← Instr.buildSlice t m (ps.map fun (i, x) => (i, a.eval x)))) : Sem Next).run P w = _; rw [Sem.run_bind, hrun]; rfl) (hK _ _ ?_)
  refine Sim.put hn hdf hsim (some d) ?_ hin
  unfold RV
  exact ⟨⟨_, set_hp⟩, by rw [upd_same]⟩

theorem pre_make (hΘ : TabOK P Θ) (hn : a.tmps.size = n) (hdf : a.defers = []) (h : SimW W M S0 s a.tmps w S B V) {dst : Option Tmp} {t : TypeId} {l c : Operand} {ty : TypeId} {pos : String} {after : Array Edge} {guard : Option (Nat × Bool)} {e : Eff}
    (hp : Pre P Θ ⟨dst, .makeSlice t l c, ty, pos, after, guard⟩ s e) (hin : inN n dst = true) (hK : ∀ a' w', Sim W M S0 n (s.app dst e) a' w' → K a' w') : (⟨dst, .makeSlice t l c, ty, pos, after, guard⟩ : Oper).wp P a w K Q := by
  simp only [Pre] at hp
  obtain ⟨d, el, sz, b, z, m, k, k', rfl, hf, ht, hl, hc, hb, h63, rfl⟩ := hp
  have hT := hΘ t
  rw [ht] at hT
  obtain ⟨hu, _, i, zv, hi, hz, hs, hby, h0, hasz, hzr⟩ := hT
  have hzr' : RA S w z zv.cells.toList := RA.of_noS (hzr w)
  have hmade := made_sound hzr' hasz h0 m
  have hbi : (i.bytes : Int) * (m : Int) ≤ 281474976710656 := by
    have : ((i.bytes * m : Nat) : Int) ≤ 281474976710656 := by rw [hby]; omega
    rwa [Int.natCast_mul] at this
  have hrun := run_make (P := P) w t el i zv hu hi hz k k' m m (by omega) (by omega) hbi (by omega)
  simp only [Int.toNat_natCast, hs] at hrun
  have hsim := newRow_sim h (Nat.succ_ne_zero d) hf (t := el) hmade (ownsAll hasz) h0 (m := m) (by simp) (by unfold maxLen; omega)
  refine wp_value (v := .slice (some ⟨w.heap.size, 0, none⟩) m m) (w1 := w.alloc (.cells (madeCells zv.cells (m * sz)) el)) (by simp only [execOp, ev_int h hl, ev_int h hc, Sem.run_bind, hrun, Result.andThen_ok, Sem.run_pure]) (hK _ _ ?_)
  refine Sim.put hn hdf hsim (some d) ?_ hin
  unfold RV
  exact ⟨⟨_, set_hp⟩, by rw [upd_same]⟩

theorem pre_alloc (hΘ : TabOK P Θ) (hn : a.tmps.size = n) (hdf : a.defers = []) (h : SimW W M S0 s a.tmps w S B V) {dst : Option Tmp} {t : TypeId} {ty : TypeId} {pos : String} {after : Array Edge} {guard : Option (Nat × Bool)} {e : Eff}
    (hp : Pre P Θ ⟨dst, .alloc t, ty, pos, after, guard⟩ s e) (hin : inN n dst = true) (hK : ∀ a' w', Sim W M S0 n (s.app dst e) a' w' → K a' w') : (⟨dst, .alloc t, ty, pos, after, guard⟩ : Oper).wp P a w K Q := by
  simp only [Pre] at hp
  obtain ⟨d, rfl, hf, hk, rfl⟩ := hp
  obtain ⟨i0, hi0, hs0, _, ⟨zv, hz, hzr⟩, hasz, hpos⟩ := ti_info (hΘ t) hk
  have hsim := newRow_sim h (Nat.succ_ne_zero d) hf (t := t) (cs := zv.cells) (RL.sing (RA.of_noS (hzr w))) (by simpa using hasz) hpos rfl (by simp [maxLen])
  refine wp_value (v := .pointer (some ⟨w.heap.size, 0, none⟩)) (w1 := w.alloc (.cells zv.cells t)) (by simp only [execOp, Sem.run_bind, run_alloc hi0 hz, Result.andThen_ok, Sem.run_pure]) (hK _ _ ?_)
  refine Sim.put hn hdf hsim (some d) ?_ hin
  unfold RV
  exact ⟨_, set_hp, by rw [upd_same]; simp⟩

theorem pre_box (hΘ : TabOK P Θ) (hn : a.tmps.size = n) (hdf : a.defers = []) (h : SimW W M S0 s a.tmps w S B V) {dst : Option Tmp} {t : TypeId} {x : Operand} {ty : TypeId} {pos : String} {after : Array Edge} {guard : Option (Nat × Bool)} {e : Eff}
    (hp : Pre P Θ ⟨dst, .box t x, ty, pos, after, guard⟩ s e) (hin : inN n dst = true) (hK : ∀ a' w', Sim W M S0 n (s.app dst e) a' w' → K a' w') : (⟨dst, .box t x, ty, pos, after, guard⟩ : Oper).wp P a w K Q := by
  simp only [Pre] at hp
  obtain ⟨d, rfl, hf, hk, hsz, hd, rfl⟩ := hp
  obtain ⟨i0, hi0, hs0, _, _, _, hpos⟩ := ti_info (hΘ t) hk
  obtain ⟨S', mm, h', r, f, g⟩ := frzL_sim (ownsOf s [x]) h
  have hra := dat_ra h mm r (x := x) (by simp) hd
  have hsim := newRow_sim h' (Nat.succ_ne_zero d) (f (d + 1) hf) (t := t) (cs := (a.eval x).cells) (RL.sing hra) (by simpa using hsz) hpos rfl (by simp [maxLen])
  refine wp_value (v := .pointer (some ⟨w.heap.size, 0, none⟩)) (w1 := w.alloc (.cells (a.eval x).cells t)) (by simp only [execOp, Sem.run_bind, run_box, Result.andThen_ok, Sem.run_pure]) (hK _ _ ?_)
  refine Sim.put hn hdf hsim (some d) ?_ hin
  unfold RV
  exact ⟨_, set_hp, by rw [upd_same]; simp⟩
end
end Go.Proofs.Ytciacgmdeaihlaa.AM
