/- The machine over data (Am4, Am5, Am6). -/
import Derived.Test.YtmafbodblpgcjaaAm3
import Derived.Laws.MakeOwn
import Derived.Great.BuildSlice
/- The machine over data: pieces of cells set anew, read through a path, laid by a literal. -/
namespace Go.Proofs.Ytmafbodblpgcjaa.AM
open Go Go.RowKit

section
variable {S : Nat → Prop} {w : World}
theorem RL.set : ∀ {xs : List AV} {cs : List Value} (i : Nat) {x y : AV} {us : List Value}, RL S w xs cs → xs[i]? = some y → RA S w x us → asz x = asz y → RL S w (xs.set i x) (cs.take (aszs (xs.take i)) ++ us ++ cs.drop (aszs (xs.take i) + us.length))
  | [], _, i, x, y, us, _, h, _, _ => by simp at h
  | z :: xs, cs, 0, x, y, us, h, hx, hr, hz => by
    unfold RL at h
    obtain ⟨c1, c2, e, h1, h2⟩ := h
    simp at hx; subst hx
    have e1 := RA.size _ _ h1
    have e2 := RA.size _ _ hr
    simp only [List.set_cons_zero, List.take_zero, aszs, List.nil_append, Nat.zero_add]
    unfold RL
    refine ⟨us, c2, ?_, hr, h2⟩
    rw [e, List.drop_left' (by omega)]
  | z :: xs, cs, i + 1, x, y, us, h, hx, hr, hz => by
    unfold RL at h
    obtain ⟨c1, c2, e, h1, h2⟩ := h
    simp at hx
    have e1 := RA.size _ _ h1
    have ha : aszs ((z :: xs).take (i + 1)) = c1.length + aszs (xs.take i) := by rw [List.take_succ_cons, aszs, e1]
    rw [List.set_cons_succ]
    unfold RL
    refine ⟨c1, _, ?_, h1, RL.set i h2 hx hr hz⟩
    rw [ha, e, List.take_append, List.take_of_length_le (by omega), Nat.add_sub_cancel_left, Nat.add_assoc, List.drop_append, List.drop_eq_nil_of_le (by omega), List.nil_append, Nat.add_sub_cancel_left]
    simp only [List.append_assoc]
theorem aszs_set : ∀ {xs : List AV} (i : Nat) {x y : AV}, xs[i]? = some y → asz x = asz y → aszs (xs.set i x) = aszs xs
  | [], i, x, y, h, _ => by simp at h
  | z :: xs, 0, x, y, h, e => by simp at h; subst h; simp [aszs, e]
  | z :: xs, i + 1, x, y, h, e => by simp at h; simp [aszs, aszs_set i h e]

theorem getP_at : ∀ (p : List Nat) (x : AV) (us : List Value) (c0 c : Nat) (z : AV), RA S w x us → getP x p c0 = some (z, c) → ∃ vs, c0 ≤ c ∧ RA S w z vs ∧ (c - c0) + vs.length ≤ us.length ∧ ∀ j u, vs[j]? = some u → us[c - c0 + j]? = some u
  | [], x, us, c0, c, z, h, hg => by
    unfold getP at hg; cases hg
    exact ⟨us, Nat.le_refl _, h, by omega, fun j u hu => by rw [Nat.sub_self, Nat.zero_add]; exact hu⟩
  | i :: p, .agg xs, us, c0, c, z, h, hg => by
    unfold getP at hg
    cases hx : xs[i]? with
    | none => rw [hx] at hg; cases hg
    | some y =>
      rw [hx] at hg
      simp only at hg
      unfold RA at h
      obtain ⟨vs, k1, k2, _, k4⟩ := RL.at i h hx
      obtain ⟨ws, m1, m2, m3, m4⟩ := getP_at p y vs _ c z k1 hg
      refine ⟨ws, by omega, m2, by omega, fun j u hu => ?_⟩
      have := k4 _ _ (m4 j u hu)
      rwa [show aszs (xs.take i) + (c - (c0 + aszs (xs.take i)) + j) = c - c0 + j from by omega] at this
  | i :: p, .v _, us, c0, c, z, h, hg => by simp [getP] at hg
  | i :: p, .any, us, c0, c, z, h, hg => by simp [getP] at hg
  | i :: p, .lst _ _, us, c0, c, z, h, hg => by simp [getP] at hg
  | i :: p, .ptr _, us, c0, c, z, h, hg => by simp [getP] at hg
  | i :: p, .own _, us, c0, c, z, h, hg => by simp [getP] at hg
  | i :: p, .optr _ _ _ _, us, c0, c, z, h, hg => by simp [getP] at hg
  | i :: p, .tup _, us, c0, c, z, h, hg => by simp [getP] at hg
theorem take_splice {α : Type} (cs vs : List α) (i j l : Nat) (h : i + j + vs.length ≤ i + l) :
    cs.take i ++ (((cs.drop i).take l).take j ++ vs ++ ((cs.drop i).take l).drop (j + vs.length)) ++ cs.drop (i + l) = cs.take (i + j) ++ vs ++ cs.drop (i + j + vs.length) := by
  have e1 : cs.take i ++ ((cs.drop i).take l).take j = cs.take (i + j) := by
    rw [List.take_take, Nat.min_eq_left (by omega), ← List.take_add]
  have e2 : ((cs.drop i).take l).drop (j + vs.length) ++ cs.drop (i + l) = cs.drop (i + j + vs.length) := by
    rw [List.drop_take, List.drop_drop]
    have : cs.drop (i + l) = (cs.drop (i + (j + vs.length))).drop (l - (j + vs.length)) := by rw [List.drop_drop]; congr 1; omega
    rw [this, List.take_append_drop]; congr 1; omega
  simp only [List.append_assoc] at *
  rw [e2, ← e1]; simp only [List.append_assoc]
theorem setP_at : ∀ (p : List Nat) (x : AV) (us : List Value) (c0 c : Nat) (z y : AV) (vs : List Value), RA S w x us → getP x p c0 = some (z, c) → RA S w y vs → asz y = asz z →
    RA S w (setP x p y) (us.take (c - c0) ++ vs ++ us.drop (c - c0 + vs.length)) ∧ asz (setP x p y) = asz x
  | [], x, us, c0, c, z, y, vs, h, hg, hy, hz => by
    unfold getP at hg; cases hg
    have e1 := RA.size _ _ h
    have e2 := RA.size _ _ hy
    simp only [setP, Nat.sub_self, List.take_zero, List.nil_append, Nat.zero_add]
    rw [List.drop_eq_nil_of_le (by omega), List.append_nil]
    exact ⟨hy, hz⟩
  | i :: p, .agg xs, us, c0, c, z, y, vs, h, hg, hy, hz => by
    unfold getP at hg
    cases hx : xs[i]? with
    | none => rw [hx] at hg; cases hg
    | some q =>
      rw [hx] at hg
      simp only at hg
      unfold RA at h
      obtain ⟨qs, k1, k2, k3, k4⟩ := RL.at i h hx
      obtain ⟨m1, m2⟩ := setP_at p q qs _ c z y vs k1 hg hy hz
      obtain ⟨ws, n1, n2, n3, _⟩ := getP_at p q qs _ c z k1 hg
      have e1 := RA.size _ _ k1
      have e2 := RA.size _ _ m1
      have e3 := RA.size _ _ n2
      have e4 := RA.size _ _ hy
      simp only [setP, hx]
      unfold RA
      refine ⟨?_, by unfold asz; exact aszs_set i hx m2⟩
      have := RL.set i h hx m1 m2
      rw [e2, m2, ← e1] at this
      obtain ⟨L, hL⟩ : ∃ L, L = qs.length := ⟨_, rfl⟩
      rw [← hL] at this k3 n3
      rw [← k3, take_splice us vs (aszs (xs.take i)) (c - (c0 + aszs (xs.take i))) L (by omega)] at this
      rwa [show aszs (xs.take i) + (c - (c0 + aszs (xs.take i))) = c - c0 from by omega] at this
  | i :: p, .v _, us, c0, c, z, y, vs, h, hg, _, _ => by simp [getP] at hg
  | i :: p, .any, us, c0, c, z, y, vs, h, hg, _, _ => by simp [getP] at hg
  | i :: p, .lst _ _, us, c0, c, z, y, vs, h, hg, _, _ => by simp [getP] at hg
  | i :: p, .ptr _, us, c0, c, z, y, vs, h, hg, _, _ => by simp [getP] at hg
  | i :: p, .own _, us, c0, c, z, y, vs, h, hg, _, _ => by simp [getP] at hg
  | i :: p, .optr _ _ _ _, us, c0, c, z, y, vs, h, hg, _, _ => by simp [getP] at hg
  | i :: p, .tup _, us, c0, c, z, y, vs, h, hg, _, _ => by simp [getP] at hg

theorem foldl_splice : ∀ (vs : List Value) (k off : Nat) (cells : Array Value), off + k + vs.length ≤ cells.size →
    ((vs.zipIdx k).foldl (fun cs (x : Value × Nat) => cs.setIfInBounds (off + x.2) x.1) cells).toList = cells.toList.take (off + k) ++ vs ++ cells.toList.drop (off + k + vs.length)
  | [], k, off, cells, _ => by simp
  | v :: vs, k, off, cells, h => by
    simp only [List.zipIdx_cons, List.foldl_cons]
    simp only [List.length_cons] at h
    rw [foldl_splice vs (k + 1) off _ (by simp; omega)]
    simp only [Array.toList_setIfInBounds, List.length_cons]
    rw [show off + (k + 1) = off + k + 1 from by omega, List.take_succ_eq_append_getElem (by simp; omega), List.take_set_of_le (Nat.le_refl _), List.getElem_set_self, List.drop_set_of_lt (by omega)]
    simp only [List.append_assoc, List.singleton_append]
    rw [show off + k + 1 + vs.length = off + k + (vs.length + 1) from by omega]

theorem fill_sound {place : Nat → Option (Nat × Nat)} {s : St} {a : Act} :
    ∀ (ps : List (Nat × Operand)) (z : List AV) (cells : Array Value), (∀ x ∈ ps, isDataA (s.dat (s.ev x.2)) = true → RA S w (s.dat (s.ev x.2)) (a.eval x.2).cells.toList) → RL S w z cells.toList → partsOK s z ps →
    (∀ i y, z[i]? = some y → place i = some (aszs (z.take i), asz y)) → ∃ cells', Instr.fill place cells (ps.map fun x => (x.1, a.eval x.2)) = some cells' ∧ RL S w (setParts s z ps) cells'.toList
  | [], z, cells, _, h, _, _ => ⟨cells, rfl, h⟩
  | (i, x) :: ps, z, cells, hall, h, hp, hpl => by
    obtain ⟨⟨y, hy, hsz⟩, hd, hp'⟩ := hp
    have hx : RA S w (s.dat (s.ev x)) (a.eval x).cells.toList := hall (i, x) (by simp) hd
    have e1 := RA.size _ _ hx
    obtain ⟨us, k1, k2, _, _⟩ := RL.at i h hy
    have e2 := RA.size _ _ k1
    simp only [List.map_cons, Instr.fill, hpl i y hy]
    have e3 : (a.eval x).cells.size = asz y := by rw [← hsz, ← e1]; simp
    have e4 : cells.toList.length = cells.size := Array.length_toList
    rw [if_neg (by simp; omega)]
    have hset := RL.set i h hy hx hsz
    have hfold := foldl_splice (a.eval x).cells.toList 0 (aszs (z.take i)) cells (by simp only [Array.length_toList]; omega)
    simp only [Nat.add_zero] at hfold
    have hz2 : ∀ k, aszs ((z.set i (s.dat (s.ev x))).take k) = aszs (z.take k) := fun k => by
      by_cases hk : i < k
      · rw [List.take_set]; exact aszs_set i (y := y) (by rw [List.getElem?_take, if_pos hk]; exact hy) hsz
      · rw [List.take_set_of_le (by omega)]
    refine fill_sound ps (z.set i (s.dat (s.ev x))) _ (fun q hq => hall q (List.mem_cons_of_mem _ hq)) ?_ hp' (fun k q hq => ?_)
    · rw [← Array.foldl_toList, Array.toList_zipIdx, hfold]; exact hset
    · rw [hz2]
      by_cases hk : k = i
      · subst hk
        have hlt : k < z.length := (List.getElem?_eq_some_iff.1 hy).1
        rw [List.getElem?_set_self hlt] at hq
        cases hq
        rw [hpl k y hy, hsz]
      · rw [List.getElem?_set_ne (Ne.symm hk)] at hq
        exact hpl k q hq

theorem made_sound {z : AV} {zc : Array Value} {sz : Nat} (h : RA S w z zc.toList) (hs : asz z = sz) (hp : 0 < sz) : ∀ n, RL S w (List.replicate n z) (madeCells zc (n * sz)).toList
  | 0 => by simp [madeCells, RL]
  | n + 1 => by
    have e1 := RA.size _ _ h
    have hzs : zc.size = sz := by rw [← Array.length_toList, e1, hs]
    rw [List.replicate_succ]
    unfold RL
    refine ⟨zc.toList, (madeCells zc (n * sz)).toList, ?_, h, made_sound h hs hp n⟩
    simp only [madeCells, Array.toList_map, Array.toList_range]
    rw [show (n + 1) * sz = sz + n * sz from by rw [Nat.add_mul, Nat.one_mul, Nat.add_comm], List.range_add, List.map_append, List.map_map]
    congr 1
    · apply List.ext_getElem
      · simp [hzs]
      · intro i h1 h2
        simp at h1
        simp [hzs, Nat.mod_eq_of_lt h1, Array.getElem!_eq_getD]
        rw [Array.getElem?_eq_getElem (by omega)]; rfl
    · apply List.map_congr_left
      intro i _
      simp [hzs]
end
end Go.Proofs.Ytmafbodblpgcjaa.AM
/- The machine over data: what an operation does in memory is what it does to the data (all but calls and append). -/
namespace Go.Proofs.Ytmafbodblpgcjaa.AM
open Go Go.RowKit

theorem RA.of_noS {x : AV} {cs : List Value} {S : Nat → Prop} {w w' : World} (h : RA NoS w x cs) : RA S w' x cs := h.mono (fun _ h => h.elim) (fun _ h => h.elim) x cs

theorem aszs_sizes : ∀ (z : List AV) (fs : List (Nat × Nat)), z.map asz = fs.map (·.2) → aszs z = sizes fs
  | [], [], _ => rfl
  | [], _ :: _, h => by simp at h
  | _ :: _, [], h => by simp at h
  | x :: z, (o, q) :: fs, h => by
    simp at h
    simp only [aszs, sizes, h.1, aszs_sizes z fs (by simpa using h.2)]
theorem ti_info {P : Program} {t : TypeId} {ti : TI} (h : TIok P t ti) (hk : ti.known = true) :
    ∃ i, P.info? t = some i ∧ i.size = ti.size ∧ (∀ w, (isAgg t).run P w = .ok ti.isAgg w) ∧ (∃ zv, i.zero = some zv ∧ ∀ w, RA NoS w ti.zero zv.cells.toList) ∧ asz ti.zero = ti.size ∧ 0 < ti.size := by
  cases ti with
  | non => simp [TI.known] at hk
  | map kt vt z => simp [TI.known] at hk
  | str =>
    obtain ⟨hu, i, hi, hs, hz⟩ := h
    exact ⟨i, hi, hs, fun w => by simp [isAgg, run_underlying hu, TI.isAgg], ⟨_, hz, fun w => by simp [TI.zero, Value.cells]; unfold RA; exact ⟨rfl, rfl⟩⟩, rfl, by simp [TI.size]⟩
  | int k =>
    obtain ⟨hu, i, hi, hs, hz⟩ := h
    exact ⟨i, hi, hs, fun w => by simp [isAgg, run_underlying hu, TI.isAgg], ⟨_, hz, fun w => by simp [TI.zero, Value.cells]; unfold RA; exact ⟨rfl, rfl⟩⟩, rfl, by simp [TI.size]⟩
  | bool =>
    obtain ⟨hu, i, hi, hs, hz⟩ := h
    exact ⟨i, hi, hs, fun w => by simp [isAgg, run_underlying hu, TI.isAgg], ⟨_, hz, fun w => by simp [TI.zero, Value.cells]; unfold RA; exact ⟨rfl, rfl⟩⟩, rfl, by simp [TI.size]⟩
  | slice e sz b z =>
    obtain ⟨hu, ⟨j, hj, hs, hz⟩, i, zv, _, _, _, _, h0, _⟩ := h
    exact ⟨j, hj, hs, fun w => by simp [isAgg, run_underlying hu, TI.isAgg], ⟨_, hz, fun w => by
      simp [TI.zero, Value.cells]; unfold RA; exact ⟨none, 0, rfl, Nat.le_refl _, Nat.zero_le _, by simp, h0, .inl rfl⟩⟩, rfl, by simp [TI.size]⟩
  | struct fs z =>
    obtain ⟨fields, i, cs, hu, _, hi, hs, hpos, hm, hz, hr⟩ := h
    refine ⟨i, hi, hs, fun w => by simp [isAgg, run_underlying hu, TI.isAgg], ⟨_, hz, fun w => by simp [TI.zero, Value.cells]; unfold RA; exact hr w⟩, ?_, hpos⟩
    simp only [TI.zero, TI.size, asz]
    exact aszs_sizes z fs hm

section
variable {P : Program} {Θ : Tab} {W : World} {M : Option Value} {S0 : Nat → Prop} {n : Nat} {s : St} {a : Act} {w : World} {S : Nat → Prop} {B : Nat → Nat} {V : Nat → Value} {tmps : Array Value}

theorem wp_value {o : Oper} {K : Act → World → Prop} {Q : Exit → Act → World → Prop} {v : Value} {w1 : World} (h : (execOp a.eval o).run P w = .ok (.value v) w1) (hk : K (a.put o.dst v) w1) : o.wp P a w K Q := by
  unfold Oper.wp; rw [h]; exact hk
theorem wp_skipped {o : Oper} {K : Act → World → Prop} {Q : Exit → Act → World → Prop} {w1 : World} (h : (execOp a.eval o).run P w = .ok .skip w1) (hk : K (a.put o.dst undef) w1) : o.wp P a w K Q := by
  unfold Oper.wp; rw [h]; exact hk

theorem ev_rv (h : SimW W M S0 s a.tmps w S B V) (x : Operand) (hc : ∀ c, x = .const c → c.oneCell' = true) : RV S w s.hp B V (s.ev x) (a.eval x) := by
  cases x with
  | tmp t => exact h.sl t
  | const c => show RV S w s.hp B V (.v c) c; unfold RV; exact ⟨rfl, hc c rfl⟩
  | global g => show RV S w s.hp B V .any _; unfold RV; trivial
  | func f => show RV S w s.hp B V .any _; unfold RV; trivial
theorem concL_eq : ∀ {xs : List AV} {cs us : List Value}, conc.concL xs = some cs → RL S w xs us → us = cs
  | [], cs, us, h, k => by unfold RL at k; simp [conc.concL] at h; rw [k, h]
  | .v x :: r, cs, us, h, k => by
    unfold RL at k
    obtain ⟨c1, c2, e, h1, h2⟩ := k
    unfold RA at h1
    simp only [conc.concL, Option.map_eq_some_iff] at h
    obtain ⟨cs', h3, rfl⟩ := h
    rw [e, h1.1, concL_eq h3 h2]; rfl
  | .any :: r, cs, us, h, k => by simp [conc.concL] at h
  | .agg _ :: r, cs, us, h, k => by simp [conc.concL] at h
  | .lst _ _ :: r, cs, us, h, k => by simp [conc.concL] at h
  | .ptr _ :: r, cs, us, h, k => by simp [conc.concL] at h
  | .own _ :: r, cs, us, h, k => by simp [conc.concL] at h
  | .optr _ _ _ _ :: r, cs, us, h, k => by simp [conc.concL] at h
  | .tup _ :: r, cs, us, h, k => by simp [conc.concL] at h
theorem ev_conc (h : SimW W M S0 s a.tmps w S B V) {x : Operand} {b : Value} (hc : conc (s.ev x) = some b) : a.eval x = b := by
  cases x with
  | tmp t =>
    have ht := h.sl t
    simp only [St.ev] at hc
    show a.tmps.getD t undef = b
    cases hx : s.sl t with
    | v x => rw [hx] at hc ht; unfold RV at ht; simp [conc] at hc; rw [ht.1, hc]
    | agg xs =>
      rw [hx] at hc ht
      unfold RV at ht
      obtain ⟨cs, e, hr⟩ := ht
      simp only [conc, Option.map_eq_some_iff] at hc
      obtain ⟨cs', h1, rfl⟩ := hc
      rw [e, concL_eq h1 hr]
    | _ => rw [hx] at hc; simp [conc] at hc
  | const c => simp [St.ev, conc] at hc; exact hc
  | global g => simp [St.ev, conc] at hc
  | func f => simp [St.ev, conc] at hc
theorem ev_int (h : SimW W M S0 s a.tmps w S B V) {x : Operand} {b : Value} (hc : s.ev x = .v b) : a.eval x = b := ev_conc h (by rw [hc]; rfl)
theorem ev_tmp (h : SimW W M S0 s a.tmps w S B V) {x : Operand} {y : AV} (hy : s.ev x = y) (hn : ∀ c, y ≠ .v c) : RV S w s.hp B V y (a.eval x) := by
  have := ev_rv h x (fun c hc => by subst hc; exact absurd hy.symm (by simpa [St.ev] using hn c))
  rwa [hy] at this

/-- a run of an operation that leaves the world: the value in its slot -/
theorem pure_step (hn : a.tmps.size = n) (hdf : a.defers = []) (h : SimW W M S0 s a.tmps w S B V) {o : Oper} {K : Act → World → Prop} {Q : Exit → Act → World → Prop} {x : AV} {v : Value} (hr : (execOp a.eval o).run P w = .ok (.value v) w) (hx : RV S w s.hp B V x v) (hin : inN n o.dst = true)
    (hK : ∀ a' w', Sim W M S0 n (s.put o.dst x) a' w' → K a' w') : o.wp P a w K Q :=
  wp_value hr (hK _ _ (Sim.put hn hdf h o.dst hx hin))

theorem add_off (b o j : Nat) : (⟨b, o, none⟩ : Addr).add j = ⟨b, o + j, none⟩ := by unfold Addr.add; split <;> simp_all
theorem run_load_at (t : TypeId) {b off : Nat} {us : List Value} {i : TypeInfo} (hi : P.info? t = some i) (hs : i.size = us.length) (hc : ∀ j u, us[j]? = some u → w.cell? ⟨b, off + j, none⟩ = some u) {g : Bool} (hg : (isAgg t).run P w = .ok g w) (h1 : g = false → us.length = 1) :
    (Instr.loadAt t (.pointer (some ⟨b, off, none⟩))).run P w = .ok (if g then .agg us.toArray else us.headD undef) w := by
  simp only [Instr.loadAt, Instr.sureAddr, loadVar, Sem.run_bind, Sem.run_pure, Result.andThen_ok, hg]
  cases g with
  | true =>
    have := run_loadCells_list (P := P) w ⟨b, off, none⟩ us (fun j v hv => by rw [add_off]; exact hc j v hv)
    simp [sizeOf, typeInfo, hi, hs, this]
  | false =>
    have hl := h1 rfl
    match us, hl with
    | [u], _ =>
      have := hc 0 u rfl
      simp only [Nat.add_zero] at this
      simp [this]

theorem RO.block {ob : OB} {g : Nat} {v : Value} {base : Nat} (h : RO S w base ob g v) (hne : ob.xs ≠ []) : ∃ cs cap cur, RL S w ob.xs cs ∧ (∀ x ∈ ob.xs, asz x = ob.sz) ∧ v = .slice (some ⟨g, 0, none⟩) ob.xs.length cap ∧ base ≤ g ∧ ¬ S g ∧ w.heap[g]? = some (.cells cur ob.e (0, 0)) ∧ ob.xs.length ≤ cap ∧ cap ≤ maxLen ∧ cur.size = cap * ob.sz ∧ cur.toList.take (ob.xs.length * ob.sz) = cs := by
  obtain ⟨cs, h1, h2, _, h3, h4⟩ := h
  rcases h3.2 with ⟨_, hn⟩ | ⟨g', cap, cur, rfl, hb, hg, hc, hm, hs, ht⟩
  · exact absurd (List.eq_nil_of_length_eq_zero hn) hne
  · obtain ⟨rfl, hns⟩ := h4 g' rfl
    exact ⟨cs, cap, cur, h1, h2, rfl, hb, hns, hg, hc, hm, hs, ht⟩

/-- a new row's block -/
theorem newRow_sim (h : SimW W M S0 s tmps w S B V) {d : Nat} (hd0 : d ≠ 0) (hf : s.hp d = none) {t : TypeId} {sz m : Nat} {xs : List AV} {cs : Array Value} (hr : RL S w xs cs.toList) (ha : ∀ x ∈ xs, asz x = sz) (h0 : 0 < sz) (hm : xs.length = m) (hmax : m ≤ maxLen) :
    SimW W M S0 (s.set d (some ⟨t, sz, xs⟩)) tmps (w.alloc (.cells cs t)) S (upd B d w.heap.size) (upd V d (.slice (some ⟨w.heap.size, 0, none⟩) m m)) := by
  have hb : Below w.heap.size w (w.alloc (.cells cs t)) := (Below.refl _ _).alloc (Nat.le_refl _) _
  have hw : ∀ b, S b → (w.alloc (.cells cs t)).heap[b]? = w.heap[b]? := fun b hs => hb.block b (h.slt b hs).1
  have hl := RL.size _ _ hr
  rw [aszs_const ha, Array.length_toList, hm] at hl
  refine (h.world hb).row hd0 hf ?_ (fun g hg => .inl (by simp [Value.ownBlock] at hg; subst hg; exact h.below.size)) (fun l ob' g' ho' e1 e2 => ?_) (fun l es e e2 => ?_)
  · refine ⟨cs.toList, RL.mono (fun _ h => h) hw _ _ hr, ha, h0, ⟨by simp only [Array.length_toList, hm, hl], .inr ⟨w.heap.size, m, cs, by simp [hm], Nat.zero_le _, heap_alloc_new w _, by simp [hm], hmax, hl, ?_⟩⟩, fun g hg => ?_⟩
    · simp only [hm]; rw [List.take_of_length_le (by simp only [Array.length_toList]; omega)]
    · simp [Value.ownBlock] at hg
      subst hg
      exact ⟨rfl, fun hs => absurd (h.slt _ hs).1 (by omega)⟩
  · have := ((h.hp l ob' ho').lt g' e1).2
    simp [Value.ownBlock] at e2
    omega
  · have := (h.mapLt e).1
    simp [Value.ownBlock] at e2
    omega

theorem frzL_sim : ∀ (ls : List Nat) {s : St} {S : Nat → Prop}, SimW W M S0 s tmps w S B V → ∃ S', (∀ b, S b → S' b) ∧ SimW W M S0 (frzL ls s) tmps w S' B V ∧ (∀ l ∈ ls, ∀ ob, s.hp l = some ob → RA S' w (.lst ob.sz ob.xs) [V l]) ∧ (∀ d, s.hp d = none → (frzL ls s).hp d = none) ∧ (∀ d, d ∉ ls → (frzL ls s).hp d = s.hp d)
  | [], s, S, h => ⟨S, fun _ h => h, h, by simp, fun _ h => h, fun _ _ => rfl⟩
  | l :: ls, s, S, h => by
    obtain ⟨S1, m1, h1, r1⟩ := h.frz l
    obtain ⟨S2, m2, h2, r2, f2, g2⟩ := frzL_sim ls h1
    have hne : ∀ d, d ≠ l → (s.frz l).hp d = s.hp d := fun d hd => by
      unfold St.frz
      cases s.hp l with
      | none => rfl
      | some ob => simp [nbne hd]
    have hnone : ∀ d, s.hp d = none → (s.frz l).hp d = none := fun d hd => by
      by_cases e : d = l
      · unfold St.frz
        cases ho : s.hp l with
        | none => exact hd
        | some ob => simp [e]
      · rw [hne d e, hd]
    refine ⟨S2, fun b hb => m2 b (m1 b hb), h2, fun l' hl' ob ho => ?_, fun d hd => f2 d (hnone d hd), fun d hd => ?_⟩
    · by_cases e : l' = l
      · subst e; exact (r1 ob ho).mono m2 (fun _ _ => rfl) _ _
      · rcases List.mem_cons.1 hl' with e' | hm
        · exact absurd e' e
        · exact r2 l' hm ob (by rw [hne l' e]; exact ho)
    · simp at hd
      exact (g2 d hd.2).trans (hne d hd.1)
theorem mem_ownsOf : ∀ {xs : List Operand} {x : Operand} {l : Nat}, x ∈ xs → s.ev x = .own l → l ∈ ownsOf s xs
  | y :: xs, x, l, hx, he => by
    unfold ownsOf
    rcases List.mem_cons.1 hx with rfl | hm
    · rw [he]; simp
    · have := mem_ownsOf hm he
      cases hy : s.ev y <;> simp [this]

/-- what is stored, once its rows are given up, reads as its datum -/
theorem dat_ra (h : SimW W M S0 s a.tmps w S B V) {S' : Nat → Prop} (hm : ∀ b, S b → S' b) {xs : List Operand} (hr : ∀ l ∈ ownsOf s xs, ∀ ob, s.hp l = some ob → RA S' w (.lst ob.sz ob.xs) [V l]) {x : Operand} (hx : x ∈ xs) (hd : isDataA (s.dat (s.ev x)) = true) :
    RA S' w (s.dat (s.ev x)) (a.eval x).cells.toList := by
  have hmono : ∀ {y : AV} {u : Value}, RV S w s.hp B V y u → RV S' w s.hp B V y u := fun hy => RV.carry hm (fun _ _ => rfl) _ _ (fun l ob _ ho => ⟨ob, ho, rfl, rfl, rfl⟩) hy
  cases he : s.ev x with
  | v c =>
    rw [he] at hd
    have hev := ev_int h he
    rw [hev]
    have h1 : c.oneCell' = true := hd
    show RA S' w (.v c) _
    unfold RA
    refine ⟨?_, h1⟩
    cases c <;> first | rfl | simp [Value.oneCell'] at h1
  | agg ys => exact RA.ofRV (hmono (ev_tmp h he (fun c => by simp [St.dat]))) trivial
  | lst sz ys => exact RA.ofRV (hmono (ev_tmp h he (fun c => by simp [St.dat]))) trivial
  | own l =>
    have hv := ev_tmp h he (fun c => by simp)
    unfold RV at hv
    obtain ⟨⟨ob, ho⟩, e⟩ := hv
    have := hr l (mem_ownsOf hx he) ob ho
    show RA S' w (match s.hp l with | some ob => .lst ob.sz ob.xs | none => .any) _
    rw [ho, e]
    have hro := h.hp l ob ho
    obtain ⟨cs, _, _, _, h3, _⟩ := hro
    rcases h3.2 with ⟨hv0, _⟩ | ⟨g, cap, cur, hv0, _⟩
    · rw [hv0] at this ⊢; simpa [Value.cells] using this
    · rw [hv0] at this ⊢; simpa [Value.cells] using this
  | _ => rw [he] at hd; simp [St.dat, isDataA] at hd
end
end Go.Proofs.Ytmafbodblpgcjaa.AM
/- The machine over data: each operation's step is sound (all but calls). -/
namespace Go.Proofs.Ytmafbodblpgcjaa.AM
open Go Go.RowKit

section
variable {P : Program} {Θ : Tab} {W : World} {M : Option Value} {S0 : Nat → Prop} {n : Nat} {s : St} {a : Act} {w : World} {S : Nat → Prop} {B : Nat → Nat} {V : Nat → Value} {tmps : Array Value}
variable {K : Act → World → Prop} {Q : Exit → Act → World → Prop}

theorem run_pick (c x y : Value) (t : Bool) (hc : c = .bool t) : (do pure (Next.value (if ← asBool c then x else y)) : Sem Next).run P w = .ok (.value (if t then x else y)) w := by
  subst hc; cases t <;> rfl

theorem one_list {x : Value} (h : x.oneCell' = true) : RV S w s.hp B V (.v x) x := by unfold RV; exact ⟨rfl, h⟩

theorem offs_at {P : Program} : ∀ (fields : List Field) (fs : List (Nat × Nat)) (k : Nat), offsOK P k fields fs → ∀ (i o z : Nat), fs[i]? = some (o, z) → ∃ f, fields[i]? = some f ∧ f.offset = o ∧ 0 < z ∧ (P.info? f.type).map (·.size) = some z ∧ o = k + sizes (fs.take i)
  | [], [], _, _, i, o, z, h => by simp at h
  | [], _ :: _, _, h, _, _, _, _ => by simp [offsOK] at h
  | _ :: _, [], _, h, _, _, _, _ => by simp [offsOK] at h
  | f :: fields, (o', z') :: fs, k, h, 0, o, z, hi => by
    obtain ⟨h1, h2, h3, h4, _⟩ := h
    simp at hi
    obtain ⟨rfl, rfl⟩ := hi
    exact ⟨f, rfl, h1, h3, h4, by simp [sizes, h2]⟩
  | f :: fields, (o', z') :: fs, k, h, i + 1, o, z, hi => by
    obtain ⟨h1, h2, h3, h4, h5⟩ := h
    simp at hi
    obtain ⟨f', k1, k2, k3, k4, k5⟩ := offs_at fields fs _ h5 i o z hi
    exact ⟨f', by simpa using k1, k2, k3, k4, by rw [k5, List.take_succ_cons, sizes]; omega⟩

theorem run_fieldAt {t : TypeId} {fs : List (Nat × Nat)} {z : List AV} (hT : TIok P t (.struct fs z)) {f o_ z_ : Nat} (hf : fs[f]? = some (o_, z_)) (b off : Nat) :
    (Instr.fieldAt t (.pointer (some ⟨b, off, none⟩)) f).run P w = .ok (.pointer (some ⟨b, off + o_, none⟩)) w := by
  obtain ⟨fields, i, cs, hu, ho, _⟩ := hT
  obtain ⟨fl, h1, h2, h3, h4, _⟩ := offs_at _ _ _ ho f o_ z_ hf
  have h1' : fields[f]? = some fl := by rw [← Array.getElem?_toList]; exact h1
  cases hi : P.info? fl.type with
  | none => rw [hi] at h4; simp at h4
  | some j =>
    rw [hi] at h4
    simp at h4
    have hz : ¬ j.size = 0 := by omega
    simp [Instr.fieldAt, run_underlying hu, h1', Instr.sureAddr, fieldPlace, sizeOf, typeInfo, hi, hz, add_off, h2]

theorem run_indexAt {t e : TypeId} {sz b : Nat} {z : AV} (hT : TIok P t (.slice e sz b z)) {k : IntKind} {A : Addr} {m c j : Nat} (hj : j < m) :
    (Instr.indexAt t (.slice (some A) m c) (.int k (j : Int))).run P w = .ok (.pointer (some (A.add (j * sz)))) w := by
  obtain ⟨hu, _, i, zv, hi, _, hs, _⟩ := hT
  have h1 : (0 : Int) ≤ (j : Int) ∧ (j : Int) < (m : Int) := by omega
  simp [Instr.indexAt, asIntOf, run_underlying hu, h1, sizeOf, typeInfo, hi, hs]
  intro hge; omega

theorem size_of_cells {u : Value} {m : Nat} (h : u.cells.toList.length = m) : u.cells.size = m := by simpa using h

theorem run_alloc {t : TypeId} {zv : Value} {i : TypeInfo} (hi : P.info? t = some i) (hz : i.zero = some zv) : (Instr.alloc t true (.tuple #[])).run P w = .ok (.pointer (some ⟨w.heap.size, 0, none⟩)) (w.alloc (.cells zv.cells t)) := by
  simp [Instr.alloc, zeroValue, typeInfo, hi, hz, newVar, newRow]
theorem run_box {t : TypeId} {x : Value} : (Instr.box t x).run P w = .ok (.pointer (some ⟨w.heap.size, 0, none⟩)) (w.alloc (.cells x.cells t)) := by
  simp [Instr.box, newVar, newRow]

theorem run_build_gen {t : TypeId} {fs : List (Nat × Nat)} {z : List AV} (hT : TIok P t (.struct fs z)) {S : Nat → Prop} {a : Act} {s : St} (ps : Array (Nat × Operand)) (hall : ∀ x ∈ ps.toList, isDataA (s.dat (s.ev x.2)) = true → RA S w (s.dat (s.ev x.2)) (a.eval x.2).cells.toList) (hp : partsOK s z ps.toList) :
    ∃ cs, (Instr.build t (ps.map fun (i, x) => (i, a.eval x))).run P w = .ok (.agg cs) w ∧ RL S w (setParts s z ps.toList) cs.toList := by
  obtain ⟨fields, i, cs, hu, ho, hi, hs, hpos, hm, hz, hr⟩ := hT
  have hplaces : ∀ (l : List Field) (f2 : List (Nat × Nat)) (k : Nat), offsOK P k l f2 → (l.mapM (fun f => do pure (f.offset, ← sizeOf f.type) : Field → Sem (Nat × Nat))).run P w = .ok f2 w := by
    intro l
    induction l with
    | nil => intro f2 k h; cases f2 with
      | nil => simp
      | cons _ _ => simp [offsOK] at h
    | cons f l ih =>
      intro f2 k h
      cases f2 with
      | nil => simp [offsOK] at h
      | cons q f2 =>
        obtain ⟨o', z'⟩ := q
        obtain ⟨h1, h2, h3, h4, h5⟩ := h
        cases hj : P.info? f.type with
        | none => rw [hj] at h4; simp at h4
        | some j =>
          rw [hj] at h4
          simp at h4
          have hsz : (sizeOf f.type).run P w = .ok z' w := by simp [sizeOf, typeInfo, hj, h4]
          simp only [List.mapM_cons, Sem.run_bind, Sem.run_pure, Result.andThen_ok, hsz, ih f2 _ h5, h1]
  have hpl := hplaces _ _ _ ho
  have hzr : RL S w z cs.toList := RL.mono (fun _ h => h.elim) (fun _ h => h.elim) _ _ (hr w)
  have hplace : ∀ i y, z[i]? = some y → (fs.toArray)[i]? = some (aszs (z.take i), asz y) := fun i y hy => by
    have e := congrArg (fun l => l[i]?) hm
    simp only [List.getElem?_map, hy, Option.map_some] at e
    cases hq : fs[i]? with
    | none => rw [hq] at e; simp at e
    | some q =>
      obtain ⟨o', z'⟩ := q
      rw [hq] at e
      simp at e
      obtain ⟨_, _, _, _, _, k5⟩ := offs_at _ _ _ ho i o' z' hq
      have ht : aszs (z.take i) = sizes (fs.take i) := aszs_sizes _ _ (by rw [List.map_take, List.map_take, hm])
      simp [hq, k5, ht, e]
  obtain ⟨cells', h1, h2⟩ := fill_sound (place := fun i => fs.toArray[i]?) ps.toList z cs hall hzr hp hplace
  refine ⟨cells', ?_, h2⟩
  have hmap : (ps.map fun (i, x) => (i, a.eval x)).toList = ps.toList.map fun x => (x.1, a.eval x.2) := by simp
  have hmp : (fields.mapM (fun f => do pure (f.offset, ← sizeOf f.type) : Field → Sem (Nat × Nat))).run P w = .ok fs.toArray w := by
    rw [Array.mapM_eq_mapM_toList]
    simp only [Sem.run_map, hpl, Result.andThen_ok]
  simp only [Instr.build, zeroValue, typeInfo, Sem.run_bind, run_program, Result.andThen_ok, hi, Sem.run_pure, hz, run_underlying hu, Value.cells, hmp, hmap]
  simp only [h1, Sem.run_pure]

theorem take_splice2 {α : Type} (L vs : List α) (i m : Nat) (h : i + vs.length ≤ m) (hm : m ≤ L.length) : (L.take i ++ vs ++ L.drop (i + vs.length)).take m = (L.take m).take i ++ vs ++ (L.take m).drop (i + vs.length) := by
  rw [List.take_append, List.drop_take, List.take_take, Nat.min_eq_left (by omega)]
  have hl : (L.take i ++ vs).length = i + vs.length := by simp; omega
  rw [hl, List.take_of_length_le (by omega)]
/-- a store into a row that is owned -/
theorem store_sim (h : SimW W M S0 s tmps w S B V) {l : Nat} {ob : OB} (ho : s.hp l = some ob) {i c : Nat} {p : List Nat} {q z y : AV} {vs : List Value} {t : TypeId} {ti : TypeInfo} {val : Value} (hx : ob.xs[i]? = some q) (hg : getP q p 0 = some (z, c)) (hy : RA S w y vs) (hz : asz y = asz z) (hv : val.cells.toList = vs) (hti : P.info? t = some ti) (hsz : ti.size = asz z) :
    ∃ w1, (Instr.storeAt t (.pointer (some ⟨B l, i * ob.sz + c, none⟩)) val).run P w = .ok () w1 ∧ SimW W M S0 (s.set l (some ⟨ob.e, ob.sz, ob.xs.set i (setP q p y)⟩)) tmps w1 S B V := by
  have hro := h.hp l ob ho
  have hne : ob.xs ≠ [] := fun e => by rw [e] at hx; simp at hx
  obtain ⟨cs, cap, cur, hr, ha, hV, hb, hns, hheap, hc, hm, hs, ht⟩ := hro.block hne
  obtain ⟨qs, k1, k2, k3, k4⟩ := RL.at i hr hx
  have hilt : i < ob.xs.length := (List.getElem?_eq_some_iff.1 hx).1
  have hpre : aszs (ob.xs.take i) = i * ob.sz := by rw [aszs_const (fun x hx' => ha x (List.mem_of_mem_take hx')), List.length_take, Nat.min_eq_left (by omega)]
  have eq1 := RA.size _ _ k1
  rw [ha q (List.mem_of_getElem? hx)] at eq1
  obtain ⟨ws, m1, m2, m3, _⟩ := getP_at p q qs 0 c z k1 hg
  have e2 := RA.size _ _ m2
  have e3 := RA.size _ _ hy
  obtain ⟨s1, s2⟩ := setP_at p q qs 0 c z y vs k1 hg hy hz
  simp only [Nat.sub_zero] at s1 m3
  have hset := RL.set i hr hx s1 s2
  have hlr := RL.size _ _ hr
  rw [aszs_const ha] at hlr
  have hcurlen : cs.length ≤ cur.size := by rw [← ht]; simp; omega
  have hi1 : i * ob.sz + ob.sz ≤ cs.length := by
    have : (i + 1) * ob.sz ≤ ob.xs.length * ob.sz := Nat.mul_le_mul_right _ (by omega)
    rw [Nat.add_mul, Nat.one_mul] at this; omega
  have h1c : ∀ u ∈ vs, u.oneCell' = true := RA.one _ _ hy
  have hst := run_storeCells_at P (B l) (i * ob.sz + c) ob.e vs 0 cur w hheap (by omega) h1c
  simp only [Nat.add_zero] at hst
  have hvs : val.cells.size = ti.size := by rw [← Array.length_toList, hv, hsz]; omega
  refine ⟨w.setRow (B l) (cur.toList.take (i * ob.sz + c) ++ vs ++ cur.toList.drop (i * ob.sz + c + vs.length)).toArray, ?_, ?_⟩
  · simp [Instr.storeAt, Instr.sureAddr, storeVar, sizeOf, typeInfo, hti, hvs, hv, hst]
  · have hnew := setRow_heap w (B l) cur (cur.toList.take (i * ob.sz + c) ++ vs ++ cur.toList.drop (i * ob.sz + c + vs.length)).toArray ob.e (0, 0) hheap
    have hoth : ∀ b, b ≠ B l → (w.setRow (B l) (cur.toList.take (i * ob.sz + c) ++ vs ++ cur.toList.drop (i * ob.sz + c + vs.length)).toArray).heap[b]? = w.heap[b]? := fun b hb => setRow_other w (B l) b _ (fun e => hb e)
    generalize hw1 : w.setRow (B l) (cur.toList.take (i * ob.sz + c) ++ vs ++ cur.toList.drop (i * ob.sz + c + vs.length)).toArray = w1 at *
    have hSw : ∀ b, S b → w1.heap[b]? = w.heap[b]? := fun b hb => hoth b (fun e => hns (e ▸ hb))
    have hbel : w.grownBy w1 (some (B l)) := by
      rw [← hw1]
      exact ⟨rfl, rfl, rfl, by simp [World.setRow], fun k _ hk => by rw [hw1]; exact hoth k (fun e => hk (by rw [e]))⟩
    have hVl : (V l).ownBlock = some (B l) := by rw [hV]; rfl
    refine ⟨grown_trans h.below hbel (fun g e hlt => by cases e; exact (h.mine l ob _ ho hVl).resolve_left (by omega)), h.s0, fun b hb' => ⟨Nat.lt_of_lt_of_le (h.slt b hb').1 hbel.size, (h.slt b hb').2⟩, fun t => ?_, fun l' ob' ho' => ?_, fun l1 l2 o1 o2 g h1 h2 => ?_, fun l1 o1 g h1 => ?_, h.pin, h.mps_upd (fun _ _ => rfl) (fun _ _ => rfl) hbel.size (fun g hg hp => hbel.block g hg (fun e => hp l ob ho (by rw [hVl, e]))) (fun g hg hs _ => hs) (fun g hg hp => hp l ob ho)⟩
    · refine RV.carry (fun _ h => h) hSw _ _ (fun l' ob' _ ho' => ?_) (h.sl t)
      by_cases e : l' = l
      · subst e
        rw [ho] at ho'; cases ho'
        exact ⟨⟨ob.e, ob.sz, ob.xs.set i (setP q p y)⟩, by simp [St.set], rfl, rfl, rfl⟩
      · exact ⟨ob', by simp [St.set, nbne e, ho'], rfl, rfl, rfl⟩
    · by_cases e : l' = l
      · subst e
        have : ob' = ⟨ob.e, ob.sz, ob.xs.set i (setP q p y)⟩ := by simpa [St.set] using ho'.symm
        subst this
        have hmid := take_splice cs vs (i * ob.sz) c qs.length (by omega)
        refine ⟨cs.take (i * ob.sz + c) ++ vs ++ cs.drop (i * ob.sz + c + vs.length), ?_, fun x hx' => ?_, ?_, ⟨?_, .inr ⟨B l', cap, _, by rw [hV]; simp, hb, hnew, by simpa using hc, hm, ?_, ?_⟩⟩, fun g hg' => by rw [hVl] at hg'; cases hg'; exact ⟨rfl, hns⟩⟩
        · refine RL.mono (fun _ h => h) hSw _ _ ?_
          have hq : qs = (cs.drop (i * ob.sz)).take qs.length := by rw [← hpre]; exact k3.symm
          rw [hpre] at hset
          have hle : (qs.take c ++ vs ++ qs.drop (c + vs.length)).length = qs.length := by simp; omega
          rw [hle] at hset
          obtain ⟨L, hL⟩ : ∃ L, L = qs.length := ⟨_, rfl⟩
          rw [← hL] at hset hq hmid
          rw [hq, hmid] at hset
          exact hset
        · rcases List.mem_or_eq_of_mem_set hx' with hx' | hx'
          · exact ha x hx'
          · subst hx'; rw [s2]; exact ha q (List.mem_of_getElem? hx)
        · have := hro; obtain ⟨_, _, _, h0, _⟩ := this; exact h0
        · simp only [List.length_append, List.length_take, List.length_drop, List.length_set]; omega
        · simp only [List.size_toArray, List.length_append, List.length_take, List.length_drop, Array.length_toList]; omega
        · simp only [List.length_set]
          rw [← ht]
          exact take_splice2 _ _ _ _ (by omega) (by simp; omega)
      · have ho2 : s.hp l' = some ob' := by simpa [St.set, nbne e] using ho'
        refine (h.hp l' ob' ho2).carry (fun _ h => h) hSw (fun g hg' => ⟨hoth g (fun e' => ?_), id⟩)
        subst e'
        exact e (h.dist l' l ob' ob _ ho2 ho hg' hVl)
    · have q1 : ∃ o, s.hp l1 = some o := by
        by_cases e : l1 = l
        · subst e; exact ⟨ob, ho⟩
        · exact ⟨o1, by simpa [St.set, nbne e] using h1⟩
      have q2 : ∃ o, s.hp l2 = some o := by
        by_cases e : l2 = l
        · subst e; exact ⟨ob, ho⟩
        · exact ⟨o2, by simpa [St.set, nbne e] using h2⟩
      obtain ⟨p1, q1⟩ := q1
      obtain ⟨p2, q2⟩ := q2
      exact h.dist l1 l2 p1 p2 g q1 q2
    · by_cases e : l1 = l
      · subst e; exact h.mine l1 ob g ho
      · exact h.mine l1 o1 g (by simpa [St.set, nbne e] using h1)
end
end Go.Proofs.Ytmafbodblpgcjaa.AM
