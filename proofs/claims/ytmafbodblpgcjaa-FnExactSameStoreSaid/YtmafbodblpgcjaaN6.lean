/- The machine over data, second make (N6): cells set and read through a path, literals; rows given up; what a datum is as an argument. -/
import Derived.Test.YtmafbodblpgcjaaN5
import Derived.Laws.MakeOwn
import Derived.Great.BuildSlice
namespace Go.Proofs.Ytmafbodblpgcjaa.AM
open Go Go.RowKit
set_option linter.unusedVariables false
set_option linter.unusedSimpArgs false

section
variable {S : Nat → Prop} {w : World}
theorem RL.set : ∀ {xs : List AV} {cs : List Value} (i : Nat) {x y : AV} {us : List Value}, RL S w xs cs → xs[i]? = some y → RA S w x us → asz x = asz y → RL S w (xs.set i x) (cs.take (aszs (xs.take i)) ++ us ++ cs.drop (aszs (xs.take i) + us.length))
  | [], _, i, x, y, us, _, h, _, _ => by simp at h
  | z :: xs, cs, 0, x, y, us, h, hx, hr, hz => by
    unfold RL at h
    obtain ⟨c1, c2, e, h1, h2⟩ := h
    simp at hx; subst hx
    have e1 := RA.size _ _ h1
    have e2 := RA.size _ _ hr
    simp only [List.set_cons_zero, List.take_zero, aszs, List.nil_append, Nat.zero_add]
    unfold RL
    refine ⟨us, c2, ?_, hr, h2⟩
    rw [e, List.drop_left' (by omega)]
  | z :: xs, cs, i + 1, x, y, us, h, hx, hr, hz => by
    unfold RL at h
    obtain ⟨c1, c2, e, h1, h2⟩ := h
    simp at hx
    have e1 := RA.size _ _ h1
    have ha : aszs ((z :: xs).take (i + 1)) = c1.length + aszs (xs.take i) := by rw [List.take_succ_cons, aszs, e1]
    rw [List.set_cons_succ]
    unfold RL
    refine ⟨c1, _, ?_, h1, RL.set i h2 hx hr hz⟩
    rw [ha, e, List.take_append, List.take_of_length_le (by omega), Nat.add_sub_cancel_left, Nat.add_assoc, List.drop_append, List.drop_eq_nil_of_le (by omega), List.nil_append, Nat.add_sub_cancel_left]
    simp only [List.append_assoc]
theorem getP_at : ∀ (p : List Nat) (x : AV) (us : List Value) (c0 c : Nat) (z : AV), RA S w x us → getP x p c0 = some (z, c) → ∃ vs, c0 ≤ c ∧ RA S w z vs ∧ (c - c0) + vs.length ≤ us.length ∧ ∀ j u, vs[j]? = some u → us[c - c0 + j]? = some u
  | [], x, us, c0, c, z, h, hg => by
    unfold getP at hg; cases hg
    exact ⟨us, Nat.le_refl _, h, by omega, fun j u hu => by rw [Nat.sub_self, Nat.zero_add]; exact hu⟩
  | i :: p, .agg xs, us, c0, c, z, h, hg => by
    unfold getP at hg
    cases hx : xs[i]? with
    | none => rw [hx] at hg; cases hg
    | some y =>
      rw [hx] at hg
      simp only at hg
      unfold RA at h
      obtain ⟨vs, k1, k2, _, k4⟩ := RL.at i h hx
      obtain ⟨ws, m1, m2, m3, m4⟩ := getP_at p y vs _ c z k1 hg
      refine ⟨ws, by omega, m2, by omega, fun j u hu => ?_⟩
      have := k4 _ _ (m4 j u hu)
      rwa [show aszs (xs.take i) + (c - (c0 + aszs (xs.take i)) + j) = c - c0 + j from by omega] at this
  | i :: p, .mix xs, us, c0, c, z, h, hg => by unfold RA at h; exact h.elim
  | i :: p, .v _, us, c0, c, z, h, hg => by simp [getP] at hg
  | i :: p, .any, us, c0, c, z, h, hg => by simp [getP] at hg
  | i :: p, .lst _ _, us, c0, c, z, h, hg => by simp [getP] at hg
  | i :: p, .ptr _, us, c0, c, z, h, hg => by simp [getP] at hg
  | i :: p, .own _, us, c0, c, z, h, hg => by simp [getP] at hg
  | i :: p, .optr _ _ _ _, us, c0, c, z, h, hg => by simp [getP] at hg
  | i :: p, .tup _, us, c0, c, z, h, hg => by simp [getP] at hg
  | i :: p, .mapv _, us, c0, c, z, h, hg => by simp [getP] at hg
  | i :: p, .rd _, us, c0, c, z, h, hg => by simp [getP] at hg
  | i :: p, .fn _ _ _, us, c0, c, z, h, hg => by simp [getP] at hg
  | i :: p, .ifc _ _, us, c0, c, z, h, hg => by simp [getP] at hg
theorem take_splice {α : Type} (cs vs : List α) (i j l : Nat) (h : i + j + vs.length ≤ i + l) :
    cs.take i ++ (((cs.drop i).take l).take j ++ vs ++ ((cs.drop i).take l).drop (j + vs.length)) ++ cs.drop (i + l) = cs.take (i + j) ++ vs ++ cs.drop (i + j + vs.length) := by
  have e1 : cs.take i ++ ((cs.drop i).take l).take j = cs.take (i + j) := by
    rw [List.take_take, Nat.min_eq_left (by omega), ← List.take_add]
  have e2 : ((cs.drop i).take l).drop (j + vs.length) ++ cs.drop (i + l) = cs.drop (i + j + vs.length) := by
    rw [List.drop_take, List.drop_drop]
    have : cs.drop (i + l) = (cs.drop (i + (j + vs.length))).drop (l - (j + vs.length)) := by rw [List.drop_drop]; congr 1; omega
    rw [this, List.take_append_drop]; congr 1; omega
  simp only [List.append_assoc] at *
  rw [e2, ← e1]; simp only [List.append_assoc]
theorem setP_at : ∀ (p : List Nat) (x : AV) (us : List Value) (c0 c : Nat) (z y : AV) (vs : List Value), RA S w x us → getP x p c0 = some (z, c) → RA S w y vs → asz y = asz z →
    RA S w (setP x p y) (us.take (c - c0) ++ vs ++ us.drop (c - c0 + vs.length)) ∧ asz (setP x p y) = asz x
  | [], x, us, c0, c, z, y, vs, h, hg, hy, hz => by
    unfold getP at hg; cases hg
    have e1 := RA.size _ _ h
    have e2 := RA.size _ _ hy
    simp only [setP, Nat.sub_self, List.take_zero, List.nil_append, Nat.zero_add]
    rw [List.drop_eq_nil_of_le (by omega), List.append_nil]
    exact ⟨hy, hz⟩
  | i :: p, .agg xs, us, c0, c, z, y, vs, h, hg, hy, hz => by
    unfold getP at hg
    cases hx : xs[i]? with
    | none => rw [hx] at hg; cases hg
    | some q =>
      rw [hx] at hg
      simp only at hg
      unfold RA at h
      obtain ⟨qs, k1, k2, k3, k4⟩ := RL.at i h hx
      obtain ⟨m1, m2⟩ := setP_at p q qs _ c z y vs k1 hg hy hz
      obtain ⟨ws, n1, n2, n3, _⟩ := getP_at p q qs _ c z k1 hg
      have e1 := RA.size _ _ k1
      have e2 := RA.size _ _ m1
      have e3 := RA.size _ _ n2
      have e4 := RA.size _ _ hy
      simp only [setP, hx]
      unfold RA
      refine ⟨?_, by unfold asz; exact aszs_set i hx m2⟩
      have := RL.set i h hx m1 m2
      rw [e2, m2, ← e1] at this
      obtain ⟨L, hL⟩ : ∃ L, L = qs.length := ⟨_, rfl⟩
      rw [← hL] at this k3 n3
      rw [← k3, take_splice us vs (aszs (xs.take i)) (c - (c0 + aszs (xs.take i))) L (by omega)] at this
      rwa [show aszs (xs.take i) + (c - (c0 + aszs (xs.take i))) = c - c0 from by omega] at this
  | i :: p, .mix xs, us, c0, c, z, y, vs, h, hg, _, _ => by unfold RA at h; exact h.elim
  | i :: p, .v _, us, c0, c, z, y, vs, h, hg, _, _ => by simp [getP] at hg
  | i :: p, .any, us, c0, c, z, y, vs, h, hg, _, _ => by simp [getP] at hg
  | i :: p, .lst _ _, us, c0, c, z, y, vs, h, hg, _, _ => by simp [getP] at hg
  | i :: p, .ptr _, us, c0, c, z, y, vs, h, hg, _, _ => by simp [getP] at hg
  | i :: p, .own _, us, c0, c, z, y, vs, h, hg, _, _ => by simp [getP] at hg
  | i :: p, .optr _ _ _ _, us, c0, c, z, y, vs, h, hg, _, _ => by simp [getP] at hg
  | i :: p, .tup _, us, c0, c, z, y, vs, h, hg, _, _ => by simp [getP] at hg
  | i :: p, .mapv _, us, c0, c, z, y, vs, h, hg, _, _ => by simp [getP] at hg
  | i :: p, .rd _, us, c0, c, z, y, vs, h, hg, _, _ => by simp [getP] at hg
  | i :: p, .fn _ _ _, us, c0, c, z, y, vs, h, hg, _, _ => by simp [getP] at hg
  | i :: p, .ifc _ _, us, c0, c, z, y, vs, h, hg, _, _ => by simp [getP] at hg
theorem foldl_splice : ∀ (vs : List Value) (k off : Nat) (cells : Array Value), off + k + vs.length ≤ cells.size →
    ((vs.zipIdx k).foldl (fun cs (x : Value × Nat) => cs.setIfInBounds (off + x.2) x.1) cells).toList = cells.toList.take (off + k) ++ vs ++ cells.toList.drop (off + k + vs.length)
  | [], k, off, cells, _ => by simp
  | v :: vs, k, off, cells, h => by
    simp only [List.zipIdx_cons, List.foldl_cons]
    simp only [List.length_cons] at h
    rw [foldl_splice vs (k + 1) off _ (by simp; omega)]
    simp only [Array.toList_setIfInBounds, List.length_cons]
    rw [show off + (k + 1) = off + k + 1 from by omega, List.take_succ_eq_append_getElem (by simp; omega), List.take_set_of_le (Nat.le_refl _), List.getElem_set_self, List.drop_set_of_lt (by omega)]
    simp only [List.append_assoc, List.singleton_append]
    rw [show off + k + 1 + vs.length = off + k + (vs.length + 1) from by omega]
/-- a literal's cells: parts put into places -/
theorem fill_gen {ι : Type} (R : List AV → List Value → Prop) (put : AV → List Value → Prop) (hset : ∀ (z : List AV) (cs : List Value) (i : Nat) (x y : AV) (us : List Value), R z cs → z[i]? = some y → put x us → asz x = asz y → R (z.set i x) (cs.take (aszs (z.take i)) ++ us ++ cs.drop (aszs (z.take i) + us.length)) ∧ us.length = asz x ∧ aszs (z.take i) + us.length ≤ cs.length)
    {place : Nat → Option (Nat × Nat)} (dat : ι → AV) (val : ι → Value) :
    ∀ (ps : List (Nat × ι)) (z : List AV) (cells : Array Value), (∀ x ∈ ps, put (dat x.2) (val x.2).cells.toList) → R z cells.toList → (∀ (pre : List (Nat × ι)) (q : Nat × ι) (post : List (Nat × ι)), ps = pre ++ q :: post → ∃ y, (pre.foldl (fun z x => z.set x.1 (dat x.2)) z)[q.1]? = some y ∧ asz (dat q.2) = asz y) →
    (∀ i y, z[i]? = some y → place i = some (aszs (z.take i), asz y)) → ∃ cells', Instr.fill place cells (ps.map fun x => (x.1, val x.2)) = some cells' ∧ R (ps.foldl (fun z x => z.set x.1 (dat x.2)) z) cells'.toList
  | [], z, cells, _, h, _, _ => ⟨cells, rfl, h⟩
  | (i, x) :: ps, z, cells, hall, h, hp, hpl => by
    obtain ⟨y, hy, hsz⟩ := hp [] (i, x) ps rfl
    simp only [List.foldl_nil] at hy hsz
    have hx := hall (i, x) (by simp)
    simp only at hx
    obtain ⟨hs, e1, e2⟩ := hset z cells.toList i _ y _ h hy hx hsz
    simp only [List.map_cons, Instr.fill, hpl i y hy]
    have e3 : (val x).cells.size = asz y := by rw [← hsz, ← e1]; simp
    have e4 : cells.toList.length = cells.size := Array.length_toList
    rw [if_neg (by simp only [Array.length_toList] at e2; simp; omega)]
    have hfold := foldl_splice (val x).cells.toList 0 (aszs (z.take i)) cells (by simp only [Array.length_toList] at e2 ⊢; omega)
    simp only [Nat.add_zero] at hfold
    have hz2 : ∀ k, aszs ((z.set i (dat x)).take k) = aszs (z.take k) := fun k => by
      by_cases hk : i < k
      · rw [List.take_set]; exact aszs_set i (y := y) (by rw [List.getElem?_take, if_pos hk]; exact hy) hsz
      · rw [List.take_set_of_le (by omega)]
    refine fill_gen R put hset dat val ps (z.set i (dat x)) _ (fun q hq => hall q (List.mem_cons_of_mem _ hq)) ?_ (fun pre q post e => hp ((i, x) :: pre) q post (by rw [e]; rfl)) (fun k q hq => ?_)
    · rw [← Array.foldl_toList, Array.toList_zipIdx, hfold]; exact hs
    · rw [hz2]
      by_cases hk : k = i
      · subst hk
        have hlt : k < z.length := (List.getElem?_eq_some_iff.1 hy).1
        rw [List.getElem?_set_self hlt] at hq
        cases hq
        rw [hpl k y hy, hsz]
      · rw [List.getElem?_set_ne (Ne.symm hk)] at hq
        exact hpl k q hq
theorem made_sound {z : AV} {zc : Array Value} {sz : Nat} (h : RD w z Fa zc.toList) (hs : asz z = sz) (hp : 0 < sz) : ∀ n, RDL w (List.replicate n z) Fa (madeCells zc (n * sz)).toList
  | 0 => by simp only [List.replicate_zero, Nat.zero_mul]; unfold RDL; exact ⟨by simp [madeCells], noF⟩
  | n + 1 => by
    have e1 := RD.size _ _ _ h
    have hzs : zc.size = sz := by rw [← Array.length_toList, e1, hs]
    rw [List.replicate_succ]
    unfold RDL
    refine ⟨zc.toList, (madeCells zc (n * sz)).toList, Fa, Fa, ?_, Split.l0 noF, h, made_sound h hs hp n⟩
    simp only [madeCells, Array.toList_map, Array.toList_range]
    rw [show (n + 1) * sz = sz + n * sz from by rw [Nat.add_mul, Nat.one_mul, Nat.add_comm], List.range_add, List.map_append, List.map_map]
    congr 1
    · apply List.ext_getElem
      · simp [hzs]
      · intro i h1 h2
        simp at h1
        simp [hzs, Nat.mod_eq_of_lt h1, Array.getElem!_eq_getD]
        rw [Array.getElem?_eq_getElem (by omega)]; rfl
    · apply List.map_congr_left
      intro i _
      simp [hzs]
theorem RD.f_ra {S : Nat → Prop} {w' : World} {x : AV} {cs : List Value} (h : RD w x Fa cs) : RA S w' x cs := RD.toRA (S := S) x Fa cs (fun g hg => hg.elim) (RD.mono x Fa cs (fun g hg => hg.elim) h)
theorem RDL.f_rl {S : Nat → Prop} {w' : World} {x : List AV} {cs : List Value} (h : RDL w x Fa cs) : RL S w' x cs := RDL.toRL (S := S) x Fa cs (fun g hg => hg.elim) (RDL.mono x Fa cs (fun g hg => hg.elim) h)
mutual
theorem nilA_ro {hp : Nat → Option OB} {B : Nat → Nat} {V : Nat → Value} : ∀ (x : AV) (cs : List Value), RD w x Fa cs → RO1 S w hp B V (nilA x) Fa cs ∧ asz (nilA x) = asz x
  | .lst sz xs, cs, h => by
    unfold RD at h
    obtain ⟨v, t, us, T', rfl, h2, _, _, _, h6, _⟩ := h
    unfold nilA
    have : v = .slice none 0 0 := by
      rcases h2.2 with ⟨e, _⟩ | ⟨g, cap, cur, e, _⟩
      · exact e
      · exact ((h6 g).2 (.inl (by rw [e]; rfl))).elim
    subst this
    exact ⟨by unfold RO1; unfold RD; exact ⟨noF, rfl, rfl⟩, rfl⟩
  | .agg xs, cs, h => by
    unfold RD at h
    unfold nilA
    obtain ⟨a, b⟩ := nilL_ro (hp := hp) (B := B) (V := V) xs cs h
    exact ⟨by unfold RO1; exact a, by simp only [asz]; exact b⟩
  | .v x, cs, h => by unfold nilA; exact ⟨RD.toRO1 _ _ _ h, rfl⟩
  | .any, cs, h | .ptr _, cs, h | .own _, cs, h | .optr _ _ _ _, cs, h | .tup _, cs, h | .mapv _, cs, h | .mix _, cs, h | .rd _, cs, h | .fn _ _ _, cs, h | .ifc _ _, cs, h => by unfold RD at h; exact h.elim
theorem nilL_ro {hp : Nat → Option OB} {B : Nat → Nat} {V : Nat → Value} : ∀ (xs : List AV) (cs : List Value), RDL w xs Fa cs → ROs S w hp B V (nilL xs) Fa cs ∧ aszs (nilL xs) = aszs xs
  | [], cs, h => by unfold RDL at h; unfold nilL ROs; exact ⟨h, rfl⟩
  | x :: xs, cs, h => by
    unfold RDL at h
    obtain ⟨c1, c2, T1, T2, e, hs, h1, h2⟩ := h
    obtain ⟨n1, n2⟩ := hs.none noF
    rw [n1.eq noF] at h1
    rw [n2.eq noF] at h2
    obtain ⟨a1, b1⟩ := nilA_ro (hp := hp) (B := B) (V := V) x c1 h1
    obtain ⟨a2, b2⟩ := nilL_ro (hp := hp) (B := B) (V := V) xs c2 h2
    unfold nilL ROs
    exact ⟨⟨c1, c2, Fa, Fa, e, Split.l0 noF, a1, a2⟩, by simp only [aszs, b1, b2]⟩
end
theorem nilL_get : ∀ (xs : List AV) (i : Nat), (nilL xs)[i]? = (xs[i]?).map nilA
  | [], i => by simp [nilL]
  | x :: xs, 0 => by simp [nilL]
  | x :: xs, i + 1 => by simp [nilL, nilL_get xs i]
end

theorem aszs_sizes : ∀ (z : List AV) (fs : List (Nat × Nat)), z.map asz = fs.map (·.2) → aszs z = sizes fs
  | [], [], _ => rfl
  | [], _ :: _, h => by simp at h
  | _ :: _, [], h => by simp at h
  | x :: z, (o, q) :: fs, h => by
    simp at h
    simp only [aszs, sizes, h.1, aszs_sizes z fs (by simpa using h.2)]
theorem aszs_rep {m sz : Nat} {z : AV} (h : asz z = sz) : aszs (List.replicate m z) = m * sz := by
  rw [aszs_const (sz := sz) (fun x hx => by rw [(List.mem_replicate.1 hx).2]; exact h), List.length_replicate]
theorem ti_info {P : Program} {t : TypeId} {ti : TI} (h : TIok P t ti) (hk : ti.known = true) :
    ∃ i, P.info? t = some i ∧ i.size = ti.size ∧ (∀ w, (isAgg t).run P w = .ok ti.isAgg w) ∧ (∃ zv, i.zero = some zv ∧ ∀ w, RD w ti.zero Fa zv.cells.toList) ∧ asz ti.zero = ti.size ∧ 0 < ti.size := by
  have one : ∀ {x : Value}, x.oneCell' = true → ∀ w : World, RD w (.v x) Fa x.cells.toList := fun hx w => by rw [one_cells hx]; exact RD.v hx
  cases ti with
  | non => simp [TI.known] at hk
  | map kt vt z => simp [TI.known] at hk
  | str =>
    obtain ⟨hu, i, hi, hs, hz⟩ := h
    exact ⟨i, hi, hs, fun w => by simp [isAgg, run_underlying hu, TI.isAgg], ⟨_, hz, one rfl⟩, rfl, by simp [TI.size]⟩
  | int k =>
    obtain ⟨hu, i, hi, hs, hz⟩ := h
    exact ⟨i, hi, hs, fun w => by simp [isAgg, run_underlying hu, TI.isAgg], ⟨_, hz, one rfl⟩, rfl, by simp [TI.size]⟩
  | bool =>
    obtain ⟨hu, i, hi, hs, hz⟩ := h
    exact ⟨i, hi, hs, fun w => by simp [isAgg, run_underlying hu, TI.isAgg], ⟨_, hz, one rfl⟩, rfl, by simp [TI.size]⟩
  | ptr =>
    obtain ⟨⟨e, hu⟩, i, hi, hs, hz⟩ := h
    exact ⟨i, hi, hs, fun w => by simp [isAgg, run_underlying hu, TI.isAgg], ⟨_, hz, one rfl⟩, rfl, by simp [TI.size]⟩
  | func =>
    obtain ⟨⟨a, b, c, hu⟩, i, hi, hs, hz⟩ := h
    exact ⟨i, hi, hs, fun w => by simp [isAgg, run_underlying hu, TI.isAgg], ⟨_, hz, one rfl⟩, rfl, by simp [TI.size]⟩
  | iface =>
    obtain ⟨⟨a, hu⟩, i, hi, hs, hz⟩ := h
    exact ⟨i, hi, hs, fun w => by simp [isAgg, run_underlying hu, TI.isAgg], ⟨_, hz, one rfl⟩, rfl, by simp [TI.size]⟩
  | slice e sz b z =>
    obtain ⟨hu, ⟨j, hj, hs, hz⟩, i, zv, _, _, _, _, h0, _⟩ := h
    refine ⟨j, hj, hs, fun w => by simp [isAgg, run_underlying hu, TI.isAgg], ⟨_, hz, fun w => ?_⟩, rfl, by simp [TI.size]⟩
    simp only [TI.zero, Value.cells]
    unfold RD
    exact ⟨.slice none 0 0, 0, [], Fa, rfl, World.ownsRow_nil _ _ _ _, by simp, h0, by unfold RDL; exact ⟨rfl, noF⟩, fun g => by simp [Value.ownBlock], fun g hg => by simp [Value.ownBlock] at hg⟩
  | struct fs z =>
    obtain ⟨fields, i, cs, hu, _, hi, hs, hpos, hm, hz, hr⟩ := h
    refine ⟨i, hi, hs, fun w => by simp [isAgg, run_underlying hu, TI.isAgg], ⟨_, hz, fun w => by simp only [TI.zero, Value.cells]; unfold RD; exact hr w⟩, ?_, hpos⟩
    simp only [TI.zero, TI.size, asz]
    exact aszs_sizes z fs hm
  | arr e m sz z =>
    obtain ⟨hu, ⟨i, cs, hi, hs, hz, hr⟩, hm, hp, ha, _⟩ := h
    refine ⟨i, hi, hs, fun w => by simp [isAgg, run_underlying hu, TI.isAgg], ⟨_, hz, fun w => by simp only [TI.zero, Value.cells]; unfold RD; exact hr w⟩, ?_, Nat.mul_pos hm hp⟩
    simp only [TI.zero, TI.size, asz]
    exact aszs_rep ha

section
variable {P : Program} {Θ : Tab} {W : World} {M : Hand} {S0 : Nat → Prop} {n : Nat} {s : St} {a : Act} {w : World} {S : Nat → Prop} {B : Nat → Nat} {V : Nat → Value} {T : Nat → Nat → Prop} {tmps : Array Value}

theorem wp_value {o : Oper} {K : Act → World → Prop} {Q : Exit → Act → World → Prop} {v : Value} {w1 : World} (h : (execOp a.eval o).run P w = .ok (.value v) w1) (hk : K (a.put o.dst v) w1) : o.wp P a w K Q := by
  unfold Oper.wp; rw [h]; exact hk
theorem wp_skipped {o : Oper} {K : Act → World → Prop} {Q : Exit → Act → World → Prop} {w1 : World} (h : (execOp a.eval o).run P w = .ok .skip w1) (hk : K (a.put o.dst undef) w1) : o.wp P a w K Q := by
  unfold Oper.wp; rw [h]; exact hk

theorem ev_rv (h : SimW W M S0 s a.tmps w S B V T) (x : Operand) (hc : ∀ c, x = .const c → c.oneCell' = true) : RV S w s.hp B V (s.ev x) (a.eval x) := by
  cases x with
  | tmp t => exact h.sl t
  | const c => show RV S w s.hp B V (.v c) c; unfold RV; exact ⟨rfl, hc c rfl⟩
  | global g => show RV S w s.hp B V .any _; unfold RV; trivial
  | func f => show RV S w s.hp B V (.fn f [] []) (.func (.func f) #[] #[]); unfold RV; exact ⟨[], [], rfl, by unfold RVs; rfl, by unfold RVs; rfl⟩
theorem concL_eq : ∀ {xs : List AV} {cs us : List Value}, conc.concL xs = some cs → RL S w xs us → us = cs
  | [], cs, us, h, k => by unfold RL at k; simp [conc.concL] at h; rw [k, h]
  | .v x :: r, cs, us, h, k => by
    unfold RL at k
    obtain ⟨c1, c2, e, h1, h2⟩ := k
    unfold RA at h1
    simp only [conc.concL, Option.map_eq_some_iff] at h
    obtain ⟨cs', h3, rfl⟩ := h
    rw [e, h1.1, concL_eq h3 h2]; rfl
  | .any :: r, cs, us, h, k | .agg _ :: r, cs, us, h, k | .lst _ _ :: r, cs, us, h, k | .ptr _ :: r, cs, us, h, k | .own _ :: r, cs, us, h, k | .optr _ _ _ _ :: r, cs, us, h, k | .tup _ :: r, cs, us, h, k | .mapv _ :: r, cs, us, h, k | .mix _ :: r, cs, us, h, k | .rd _ :: r, cs, us, h, k | .fn _ _ _ :: r, cs, us, h, k | .ifc _ _ :: r, cs, us, h, k => by simp [conc.concL] at h
theorem conc_eq {x : AV} {u b : Value} {hp : Nat → Option OB} (hc : conc x = some b) (h : RV S w hp B V x u) : u = b := by
  cases x with
  | v x => unfold RV at h; simp [conc] at hc; rw [h.1, hc]
  | agg xs =>
    unfold RV at h
    obtain ⟨cs, e, hr⟩ := h
    simp only [conc, Option.map_eq_some_iff] at hc
    obtain ⟨cs', h1, rfl⟩ := hc
    rw [e, concL_eq h1 hr]
  | _ => simp [conc] at hc
theorem ev_conc (h : SimW W M S0 s a.tmps w S B V T) {x : Operand} {b : Value} (hc : conc (s.ev x) = some b) : a.eval x = b := by
  cases x with
  | tmp t => exact conc_eq hc (h.sl t)
  | const c => simp [St.ev, conc] at hc; exact hc
  | global g => simp [St.ev, conc] at hc
  | func f => simp [St.ev, conc] at hc
theorem ev_int (h : SimW W M S0 s a.tmps w S B V T) {x : Operand} {b : Value} (hc : s.ev x = .v b) : a.eval x = b := ev_conc h (by rw [hc]; rfl)
theorem ev_tmp (h : SimW W M S0 s a.tmps w S B V T) {x : Operand} {y : AV} (hy : s.ev x = y) (hn : ∀ c, y ≠ .v c) : RV S w s.hp B V y (a.eval x) := by
  have := ev_rv h x (fun c hc => by subst hc; exact absurd hy.symm (by simpa [St.ev] using hn c))
  rwa [hy] at this

/-- a run of an operation that leaves the world: the value in its slot -/
theorem pure_step (hn : a.tmps.size = n) (hdf : a.defers = []) (h : SimW W M S0 s a.tmps w S B V T) {o : Oper} {K : Act → World → Prop} {Q : Exit → Act → World → Prop} {x : AV} {v : Value} (hr : (execOp a.eval o).run P w = .ok (.value v) w) (hx : RV S w s.hp B V x v) (hin : inN n o.dst = true)
    (hK : ∀ a' w', Sim W M S0 n (s.put o.dst x) a' w' → K a' w') : o.wp P a w K Q :=
  wp_value hr (hK _ _ (Sim.put hn hdf h o.dst hx hin))

theorem add_off (b o j : Nat) : (⟨b, o, none⟩ : Addr).add j = ⟨b, o + j, none⟩ := by unfold Addr.add; split <;> simp_all
theorem run_load_at (t : TypeId) {b off : Nat} {us : List Value} {i : TypeInfo} (hi : P.info? t = some i) (hs : i.size = us.length) (hc : ∀ j u, us[j]? = some u → w.cell? ⟨b, off + j, none⟩ = some u) {g : Bool} (hg : (isAgg t).run P w = .ok g w) (h1 : g = false → us.length = 1) :
    (Instr.loadAt t (.pointer (some ⟨b, off, none⟩))).run P w = .ok (if g then .agg us.toArray else us.headD undef) w := by
  simp only [Instr.loadAt, Instr.sureAddr, loadVar, Sem.run_bind, Sem.run_pure, Result.andThen_ok, hg]
  cases g with
  | true =>
    have := run_loadCells_list (P := P) w ⟨b, off, none⟩ us (fun j v hv => by rw [add_off]; exact hc j v hv)
    simp [sizeOf, typeInfo, hi, hs, this]
  | false =>
    have hl := h1 rfl
    match us, hl with
    | [u], _ =>
      have := hc 0 u rfl
      simp only [Nat.add_zero] at this
      simp [this]
/-- cells of a row that is known -/
theorem row_cell {b t : Nat} {cur : Array Value} {cs : List Value} {m : Nat} (hb : w.heap[b]? = some (.cells cur t (0, 0))) (ht : cur.toList.take m = cs) {j : Nat} {u : Value} (hu : cs[j]? = some u) : w.cell? ⟨b, j, none⟩ = some u := by
  rw [cell_of_row w b j cur t (0, 0) hb]
  rw [← ht, List.getElem?_take] at hu
  split at hu
  · simpa using hu
  · cases hu
/-- a row's part read as a pointer to what may only be read -/
theorem rowAt_ra {hp : Nat → Option OB} {T : Nat → Prop} {ob : OB} {b : Nat} {v : Value} (h : RO S w hp B V T ob b v) (hs : ob.e.shut = true) {i c : Nat} {p : List Nat} {z : AV} (hz : rowAt ob i p c = .ptr z) :
    RA (fun g => S g ∨ v.ownBlock = some g ∨ T g) w (.ptr z) [.pointer (some ⟨b, i * ob.sz + c, none⟩)] := by
  unfold rowAt at hz
  split at hz
  · rename_i y hy
    split at hz
    · rename_i z' c' hg
      cases hb : Nat.beq c' c with
      | false => rw [hb] at hz; cases hz
      | true =>
        rw [hb] at hz
        simp only [cond_true, AV.ptr.injEq] at hz
        subst hz
        obtain rfl := Nat.eq_of_beq_eq_true hb
        have hne : ob.xs ≠ [] := fun e => by rw [e] at hy; simp at hy
        obtain ⟨t, cs, cap, cur, h1, h2, h3, h4, rfl, hheap, hc, hm, hs', ht⟩ := h.block hne
        have hr := RL.mono (S' := fun g => S g ∨ (Value.slice (some ⟨b, 0, none⟩) ob.xs.length cap).ownBlock = some g ∨ T g) (w' := w) (fun g hg => hg.elim .inl (fun k => .inr (.inr k))) (fun _ _ => rfl) _ _ (RK.list hs h2)
        obtain ⟨qs, k1, k2, k3, k4⟩ := RL.at i hr hy
        obtain ⟨vs, m1, m2, m3, m4⟩ := getP_at p y qs 0 c' z' k1 hg
        have hilt : i < ob.xs.length := (List.getElem?_eq_some_iff.1 hy).1
        have hpre : aszs (ob.xs.take i) = i * ob.sz := by rw [aszs_const (fun x hx' => h3 x (List.mem_of_mem_take hx')), List.length_take, Nat.min_eq_left (by omega)]
        unfold RA
        refine ⟨b, i * ob.sz + c', vs, rfl, .inr (.inl rfl), m2, fun j u hu => ?_⟩
        have h5 := k4 _ _ (m4 j u hu)
        rw [hpre, Nat.sub_zero, ← Nat.add_assoc] at h5
        exact row_cell hheap ht h5
    · cases hz
  · cases hz
theorem rowAt_or (ob : OB) (i : Nat) (p : List Nat) (c : Nat) : rowAt ob i p c = .any ∨ ∃ z, rowAt ob i p c = .ptr z := by
  unfold rowAt
  split
  · split
    · rename_i z c' _
      cases Nat.beq c' c
      · exact .inl rfl
      · exact .inr ⟨_, rfl⟩
    · exact .inl rfl
  · exact .inl rfl

/-- a row is given up: it may be read from now on, by whoever names it -/
theorem SimW.frz (h : SimW W M S0 s tmps w S B V T) (l : Nat) (hok : okL l = true) : ∃ S', (∀ b, S b → S' b) ∧ SimW W M S0 (s.frz l) tmps w S' B V T ∧ ∀ ob, s.hp l = some ob → ob.e.shut = true → ∀ g, Blk V T l g → S' g := by
  unfold St.frz
  cases ho : s.hp l with
  | none => exact ⟨S, fun _ h => h, h, fun ob e => by cases e⟩
  | some ob =>
    have hro := h.rows.ro l ob ho
    have hsub : ∀ b, S b → S b ∨ (ob.e.shut = true ∧ Blk V T l b) := fun b hb => .inl hb
    have hsame : ∀ j, j ≠ l → Same s.hp (fun j => bif Nat.beq j l then none else killO l (s.hp j)) B B V V j := fun j hj o hjo => ⟨⟨killE l o.e, o.sz, o.xs⟩, by simp only [nbne hj, cond_false]; exact killO_of hjo, rfl, rfl, rfl⟩
    have hat : ∀ j o, (bif Nat.beq j l then none else killO l (s.hp j)) = some o → j ≠ l ∧ ∃ o', s.hp j = some o' ∧ o = ⟨killE l o'.e, o'.sz, o'.xs⟩ := fun j o e => by
      have hj : j ≠ l := fun e' => by rw [e'] at e; simp at e
      rw [nbne hj] at e
      exact ⟨hj, killO_some e⟩
    refine ⟨fun g => S g ∨ (ob.e.shut = true ∧ Blk V T l g), hsub, ⟨h.below, fun b hb => .inl (h.s0 b hb), fun b hb => ?_, fun t => ?_, ⟨fun j o e => ?_, fun j o g e hb => ?_, fun j o g e => ?_, fun j j' o o' g e1 e2 => ?_, fun j es e => ?_⟩, h.pin⟩, fun ob' e hs g hg => by cases e; exact .inr ⟨hs, hg⟩⟩
    · rcases hb with hb | ⟨_, hb⟩
      · exact h.slt b hb
      · obtain ⟨_, k2, k3⟩ := h.rows.me l ob b ho hb
        exact ⟨k2, .inr k3⟩
    · have ht := h.sl t
      have hother : ∀ x u, x.names l = false → RV S w s.hp B V x u → RV (fun g => S g ∨ (ob.e.shut = true ∧ Blk V T l g)) w (fun j => bif Nat.beq j l then none else killO l (s.hp j)) B V x u := fun x u hx hr =>
        RV.carry hsub (fun _ _ => rfl) x u (fun j hj => hsame j (fun e => by rw [e, hx] at hj; cases hj)) hr
      have hgen : RV (fun g => S g ∨ (ob.e.shut = true ∧ Blk V T l g)) w (fun j => bif Nat.beq j l then none else killO l (s.hp j)) B V (bif (s.sl t).names l then .any else s.sl t) (tmps.getD t undef) := by
        cases hn : (s.sl t).names l with
        | true => simp only [cond_true]; unfold RV; trivial
        | false => simp only [cond_false]; exact hother _ _ hn ht
      show RV _ w (fun j => bif Nat.beq j l then none else killO l (s.hp j)) B V (frzA ob l (s.sl t)) _
      cases hx : s.sl t with
      | own l' =>
        rw [hx] at ht
        simp only [frzA]
        by_cases e : l' = l
        · subst e
          simp only [Nat.beq_refl, cond_true]
          cases hs : ob.e.shut with
          | true =>
            simp only [cond_true]
            unfold RV at ht ⊢
            rw [ht.2]
            exact RA.mono (fun g hg => hg.elim .inl (fun k => .inr ⟨by trivial, k⟩)) (fun _ _ => rfl) _ _ (hro.list hs)
          | false => simp only [cond_false]; unfold RV; trivial
        · simp only [nbne e, cond_false]
          exact hother _ _ (by simp [AV.names, nbne e]) ht
      | optr l' i p c =>
        rw [hx] at ht
        simp only [frzA]
        by_cases e : l' = l
        · subst e
          simp only [Nat.beq_refl, cond_true]
          cases hs : ob.e.shut with
          | true =>
            simp only [cond_true]
            rcases rowAt_or ob i p c with hr | ⟨z, hr⟩
            · rw [hr]; unfold RV; trivial
            · rw [hr]
              unfold RV at ht ⊢
              obtain ⟨ob', ho', e⟩ := ht
              rw [ho] at ho'; cases ho'
              rw [e]
              exact RA.mono (fun g hg => hg.elim .inl (fun k => .inr ⟨by trivial, k⟩)) (fun _ _ => rfl) _ _ (rowAt_ra hro hs hr)
          | false => simp only [cond_false]; unfold RV; trivial
        · simp only [nbne e, cond_false]
          exact hother _ _ (by simp [AV.names, nbne e]) ht
      | _ =>
        rw [hx] at hgen
        simp only [frzA]
        exact hgen
    · obtain ⟨hj, o', e', rfl⟩ := hat j o e
      exact ((h.rows.ro j o' e').kill l).carry hsub (fun _ _ => rfl) (fun i hi => hsame i (fun e2 => by rw [e2, namesE_kill] at hi; cases hi)) (fun _ _ => rfl) (fun _ _ => rfl)
    · obtain ⟨hj, o', e', rfl⟩ := hat j o e
      obtain ⟨k1, k2, k3⟩ := h.rows.me j o' g e' hb
      exact ⟨fun hs => hs.elim k1 (fun hs => (h.far ho).2 j o' g hj e' hb hs.2), k2, k3⟩
    · obtain ⟨hj, o', e', rfl⟩ := hat j o e
      exact h.rows.nd j o' g e'
    · obtain ⟨_, p, k1, rfl⟩ := hat j o e1
      obtain ⟨_, q, k2, rfl⟩ := hat j' o' e2
      exact h.rows.ds j j' p q g k1 k2
    · have e0 : (bif Nat.beq j l then none else s.mp j) = some es := e
      have hj : j ≠ l := fun e' => by rw [e'] at e0; simp at e0
      rw [nbne hj] at e0
      obtain ⟨⟨t, sz, hq⟩, k⟩ := h.rows.mp j es e0
      exact ⟨⟨t, sz, by simp only [nbne hj, cond_false]; rw [hq]; rfl⟩, k⟩
theorem frzL_sim : ∀ (ls : List Nat) {s : St} {S : Nat → Prop}, ls.all okL = true → SimW W M S0 s tmps w S B V T → ∃ S', (∀ b, S b → S' b) ∧ SimW W M S0 (frzL ls s) tmps w S' B V T ∧ (∀ l ∈ ls, ∀ ob, s.hp l = some ob → ob.e.shut = true → ∀ g, Blk V T l g → S' g) ∧ (∀ d, s.hp d = none → (frzL ls s).hp d = none) ∧ (∀ d ob, d ∉ ls → s.hp d = some ob → ob.e.shut = true → (frzL ls s).hp d = some ob)
  | [], s, S, _, h => ⟨S, fun _ h => h, h, by simp, fun _ h => h, fun _ _ _ h _ => h⟩
  | l :: ls, s, S, hl, h => by
    simp only [List.all_cons, Bool.and_eq_true] at hl
    obtain ⟨S1, m1, h1, r1⟩ := h.frz l hl.1
    obtain ⟨S2, m2, h2, r2, f2, g2⟩ := frzL_sim ls hl.2 h1
    have hkeep : ∀ d ob, d ≠ l → s.hp d = some ob → ob.e.shut = true → (s.frz l).hp d = some ob := fun d ob hd hq hs => by
      unfold St.frz
      cases s.hp l with
      | none => exact hq
      | some o => simp only [nbne hd, cond_false]; rw [killO_of hq, killE_shut l _ hs]
    have hnone : ∀ d, s.hp d = none → (s.frz l).hp d = none := fun d hd => by
      unfold St.frz
      cases ho : s.hp l with
      | none => exact hd
      | some ob => simp only [hd, killO]; cases Nat.beq d l <;> rfl
    refine ⟨S2, fun b hb => m2 b (m1 b hb), h2, fun l' hl' ob ho hs g hg => ?_, fun d hd => f2 d (hnone d hd), fun d ob hd hq hs => ?_⟩
    · by_cases e : l' = l
      · subst e; exact m2 g (r1 ob ho hs g hg)
      · rcases List.mem_cons.1 hl' with e' | hm
        · exact absurd e' e
        · exact r2 l' hm ob (hkeep l' ob e ho hs) hs g hg
    · simp at hd
      exact g2 d ob hd.2 (hkeep d ob hd.1 hq hs) hs

/-! ### a datum, as it is read or stored -/
theorem ownsAL_app (xs ys : List AV) : ownsAL (xs ++ ys) = ownsAL xs ++ ownsAL ys := by
  induction xs with
  | nil => rfl
  | cons x xs ih => simp [ownsAL, ih]
theorem mem_ownsAL : ∀ {xs : List AV} {x : AV} {l : Nat}, x ∈ xs → l ∈ ownsA x → l ∈ ownsAL xs
  | y :: xs, x, l, hx, hl => by
    unfold ownsAL
    rcases List.mem_cons.1 hx with rfl | hm
    · simp [hl]
    · simp [mem_ownsAL hm hl]
section
variable {S' : Nat → Prop}
theorem dat_own (h : SimW W M S0 s tmps w S B V T) (hm : ∀ b, S b → S' b) {l : Nat} {ob : OB} (ho : s.hp l = some ob) (hs : ob.e.shut = true) (hb : ∀ g, Blk V T l g → S' g) : RA S' w (.lst ob.sz ob.xs) [V l] :=
  RA.mono (fun g hg => hg.elim (hm g) (hb g)) (fun _ _ => rfl) _ _ ((h.rows.ro l ob ho).list hs)
mutual
theorem dat_ro (h : SimW W M S0 s tmps w S B V T) (hm : ∀ b, S b → S' b) : ∀ (x : AV) (cs : List Value), (∀ l ∈ ownsA x, ∀ ob, s.hp l = some ob → ob.e.shut = true → ∀ g, Blk V T l g → S' g) → isDataA s x = true → RO1 S w s.hp B V x Fa cs → RA S' w (s.dat x) cs
  | .v x, cs, _, _, hr => by unfold RO1 at hr; unfold RD at hr; unfold St.dat; unfold RA; exact hr.2
  | .agg xs, cs, _, _, hr => by unfold RO1 at hr; unfold St.dat; exact RD.f_ra hr
  | .lst sz xs, cs, _, _, hr => by unfold RO1 at hr; unfold St.dat; exact RD.f_ra hr
  | .own l, cs, hb, hd, hr => by
    unfold RO1 at hr
    obtain ⟨_, ⟨ob, ho⟩, rfl, _⟩ := hr
    simp only [isDataA, ho] at hd
    simp only [St.dat, ho, hd, cond_true]
    exact dat_own h hm ho hd (hb l (by simp [ownsA]) ob ho hd)
  | .optr l i p c, cs, hb, hd, hr => by
    unfold RO1 at hr
    obtain ⟨_, ob, ho, rfl⟩ := hr
    simp only [isDataA, ho, Bool.and_eq_true] at hd
    simp only [St.dat, ho, hd.1, cond_true]
    rcases rowAt_or ob i p c with hq | ⟨z, hq⟩
    · rw [hq] at hd; simp at hd
    · rw [hq]
      exact RA.mono (fun g hg => hg.elim (hm g) (hb l (by simp [ownsA]) ob ho hd.1 g)) (fun _ _ => rfl) _ _ (rowAt_ra (h.rows.ro l ob ho) hd.1 hq)
  | .mix xs, cs, hb, hd, hr => by
    unfold RO1 at hr
    simp only [isDataA] at hd
    simp only [St.dat]
    unfold RA
    exact dat_ros h hm xs cs (fun l hl => hb l (by simpa [ownsA] using hl)) hd hr
  | .rd x, cs, _, _, hr => by unfold RO1 at hr; unfold St.dat; exact RA.mono hm (fun _ _ => rfl) _ _ hr.2
  | .any, cs, _, hd, _ => by simp [isDataA] at hd
  | .ptr _, cs, _, hd, hr => by unfold RO1 at hr; exact hr.elim
  | .tup _, cs, _, hd, _ => by simp [isDataA] at hd
  | .mapv _, cs, _, hd, _ => by simp [isDataA] at hd
  | .fn _ _ _, cs, _, hd, _ => by simp [isDataA] at hd
  | .ifc _ _, cs, _, hd, _ => by simp [isDataA] at hd
theorem dat_ros (h : SimW W M S0 s tmps w S B V T) (hm : ∀ b, S b → S' b) : ∀ (xs : List AV) (cs : List Value), (∀ l ∈ ownsAL xs, ∀ ob, s.hp l = some ob → ob.e.shut = true → ∀ g, Blk V T l g → S' g) → isDataL s xs = true → ROs S w s.hp B V xs Fa cs → RL S' w (s.datL xs) cs
  | [], cs, _, _, hr => by unfold ROs at hr; unfold St.datL RL; exact hr.1
  | x :: xs, cs, hb, hd, hr => by
    unfold ROs at hr
    obtain ⟨c1, c2, T1, T2, e, hs, h1, h2⟩ := hr
    obtain ⟨n1, n2⟩ := hs.none noF
    rw [n1.eq noF] at h1
    rw [n2.eq noF] at h2
    simp only [isDataL, Bool.and_eq_true] at hd
    unfold St.datL RL
    exact ⟨c1, c2, e, dat_ro h hm x c1 (fun l hl => hb l (by unfold ownsAL; simp [hl])) hd.1 h1, dat_ros h hm xs c2 (fun l hl => hb l (by unfold ownsAL; simp [hl])) hd.2 h2⟩
end
/-- a slot's datum, once its rows are given up -/
theorem dat_rv (h : SimW W M S0 s tmps w S B V T) (hm : ∀ b, S b → S' b) {x : AV} {u : Value} (hb : ∀ l ∈ ownsA x, ∀ ob, s.hp l = some ob → ob.e.shut = true → ∀ g, Blk V T l g → S' g) (hd : isDataA s x = true) (hr : RV S w s.hp B V x u) {hp' : Nat → Option OB} {B' : Nat → Nat} {V' : Nat → Value} :
    RV S' w hp' B' V' (s.dat x) u ∧ RA S' w (s.dat x) u.cells.toList := by
  cases x with
  | v x => unfold RV at hr; obtain ⟨rfl, h1⟩ := hr; unfold St.dat; exact ⟨by unfold RV; exact ⟨rfl, h1⟩, by unfold RA; exact ⟨one_cells h1, h1⟩⟩
  | agg xs => unfold RV at hr; obtain ⟨cs, rfl, h1⟩ := hr; unfold St.dat; have := RL.mono hm (fun _ _ => rfl) _ _ h1; exact ⟨by unfold RV; exact ⟨cs, rfl, this⟩, by unfold RA; simpa [Value.cells] using this⟩
  | lst sz xs =>
    unfold RV at hr
    have h0 := RA.mono (S' := S') (w' := w) hm (fun _ _ => rfl) _ _ hr
    unfold St.dat
    refine ⟨by unfold RV; exact h0, ?_⟩
    unfold RA at hr
    obtain ⟨A, c, e, _⟩ := hr
    simp only [List.cons.injEq, and_true] at e
    subst e
    simpa [Value.cells] using h0
  | ptr x =>
    unfold RV at hr
    have h0 := RA.mono (S' := S') (w' := w) hm (fun _ _ => rfl) _ _ hr
    unfold St.dat
    refine ⟨by unfold RV; exact h0, ?_⟩
    unfold RA at hr
    obtain ⟨A, c, us, e, _⟩ := hr
    simp only [List.cons.injEq, and_true] at e
    subst e
    simpa [Value.cells] using h0
  | own l =>
    unfold RV at hr
    obtain ⟨⟨ob, ho⟩, rfl⟩ := hr
    simp only [isDataA, ho] at hd
    simp only [St.dat, ho, hd, cond_true]
    have := dat_own h hm ho hd (hb l (by simp [ownsA]) ob ho hd)
    exact ⟨by unfold RV; exact this, by rw [one_cells (h.oneV l ob ho)]; exact this⟩
  | optr l i p c =>
    unfold RV at hr
    obtain ⟨ob, ho, rfl⟩ := hr
    simp only [isDataA, ho, Bool.and_eq_true] at hd
    simp only [St.dat, ho, hd.1, cond_true]
    rcases rowAt_or ob i p c with hq | ⟨z, hq⟩
    · rw [hq] at hd; simp at hd
    · rw [hq]
      have := RA.mono (S' := S') (w' := w) (fun g hg => hg.elim (hm g) (hb l (by simp [ownsA]) ob ho hd.1 g)) (fun _ _ => rfl) _ _ (rowAt_ra (h.rows.ro l ob ho) hd.1 hq)
      exact ⟨by unfold RV; exact this, by simpa [Value.cells] using this⟩
  | mix xs =>
    unfold RV at hr
    obtain ⟨cs, rfl, h1⟩ := hr
    simp only [isDataA] at hd
    simp only [St.dat]
    have := dat_ros h hm xs cs (fun l hl => hb l (by simpa [ownsA] using hl)) hd h1
    exact ⟨by unfold RV; exact ⟨cs, rfl, this⟩, by unfold RA; simpa [Value.cells] using this⟩
  | rd _ => unfold RV at hr; exact hr.elim
  | _ => simp [isDataA] at hd
/-- the arguments of a call that reads them -/
theorem args_rv (h : SimW W M S0 s tmps w S B V T) (hm : ∀ b, S b → S' b) {hp' : Nat → Option OB} {B' : Nat → Nat} {V' : Nat → Value} : ∀ (xs : List AV) (us : List Value), (∀ l ∈ ownsAL xs, ∀ ob, s.hp l = some ob → ob.e.shut = true → ∀ g, Blk V T l g → S' g) → argsA s xs = true → RVs S w s.hp B V xs us → RVs S' w hp' B' V' (xs.map s.dat) us
  | [], us, _, _, hr => by unfold RVs at hr; show RVs _ _ _ _ _ [] us; unfold RVs; exact hr
  | x :: xs, us, hb, hd, hr => by
    unfold RVs at hr
    obtain ⟨u, us', rfl, h1, h2⟩ := hr
    simp only [argsA, Bool.and_eq_true] at hd
    show RVs _ _ _ _ _ (s.dat x :: xs.map s.dat) _
    unfold RVs
    refine ⟨u, us', rfl, ?_, args_rv h hm xs us' (fun l hl => hb l (by unfold ownsAL; simp [hl])) hd.2 h2⟩
    have hb' : ∀ l ∈ ownsA x, ∀ ob, s.hp l = some ob → ob.e.shut = true → ∀ g, Blk V T l g → S' g := fun l hl => hb l (by unfold ownsAL; simp [hl])
    have h3 := hd.1
    cases x with
    | any => unfold St.dat RV; trivial
    | fn f xs ys =>
      unfold RV at h1
      unfold argA at h3
      split at h3 <;> simp_all
      · unfold St.dat RV
        obtain ⟨us, vs, e, k1, k2⟩ := h1
        unfold RVs at k1 k2
        subst k1 k2
        exact ⟨[], [], e, by unfold RVs; rfl, by unfold RVs; rfl⟩
    | ifc t x =>
      unfold RV at h1
      obtain ⟨u', rfl, h1⟩ := h1
      unfold argA at h3
      simp only [St.dat]
      unfold RV
      exact ⟨u', rfl, (dat_rv h hm (fun l hl => hb' l (by simpa [ownsA] using hl)) h3 h1).1⟩
    | tup _ => simp [argA] at h3
    | mapv _ => simp [argA] at h3
    | rd _ => simp [argA] at h3
    | _ => exact (dat_rv h hm hb' (by simpa [argA] using h3) h1).1
end
end
end Go.Proofs.Ytmafbodblpgcjaa.AM
