/- The machine over data: pieces of cells set anew, read through a path, laid by a literal. -/
import Derived.Test.YtciacgmdeaihlaaAm3
import Derived.Laws.MakeOwn
import Derived.Great.BuildSlice
namespace Go.Proofs.Ytciacgmdeaihlaa.AM
open Go Go.RowKit

section
variable {S : Nat → Prop} {w : World}
theorem RL.set : ∀ {xs : List AV} {cs : List Value} (i : Nat) {x y : AV} {us : List Value}, RL S w xs cs → xs[i]? = some y → RA S w x us → asz x = asz y → RL S w (xs.set i x) (cs.take (aszs (xs.take i)) ++ us ++ cs.drop (aszs (xs.take i) + us.length))
  | [], _, i, x, y, us, _, h, _, _ => by simp at h
  | z :: xs, cs, 0, x, y, us, h, hx, hr, hz => by
    unfold RL at h
    obtain ⟨c1, c2, e, h1, h2⟩ := h
    simp at hx; subst hx
    have e1 := RA.size _ _ h1
    have e2 := RA.size _ _ hr
    simp only [List.set_cons_zero, List.take_zero, aszs, List.nil_append, Nat.zero_add]
    unfold RL
    refine ⟨us, c2, ?_, hr, h2⟩
    rw [e, List.drop_left' (by omega)]
  | z :: xs, cs, i + 1, x, y, us, h, hx, hr, hz => by
    unfold RL at h
    obtain ⟨c1, c2, e, h1, h2⟩ := h
    simp at hx
    have e1 := RA.size _ _ h1
    have ha : aszs ((z :: xs).take (i + 1)) = c1.length + aszs (xs.take i) := by rw [List.take_succ_cons, aszs, e1]
    rw [List.set_cons_succ]
    unfold RL
    refine ⟨c1, _, ?_, h1, RL.set i h2 hx hr hz⟩
    rw [ha, e, List.take_append, List.take_of_length_le (by omega), Nat.add_sub_cancel_left, Nat.add_assoc, List.drop_append, List.drop_eq_nil_of_le (by omega), List.nil_append, Nat.add_sub_cancel_left]
    simp only [List.append_assoc]
theorem aszs_set : ∀ {xs : List AV} (i : Nat) {x y : AV}, xs[i]? = some y → asz x = asz y → aszs (xs.set i x) = aszs xs
  | [], i, x, y, h, _ => by simp at h
  | z :: xs, 0, x, y, h, e => by simp at h; subst h; simp [aszs, e]
  | z :: xs, i + 1, x, y, h, e => by simp at h; simp [aszs, aszs_set i h e]

theorem getP_at : ∀ (p : List Nat) (x : AV) (us : List Value) (c0 c : Nat) (z : AV), RA S w x us → getP x p c0 = some (z, c) → ∃ vs, c0 ≤ c ∧ RA S w z vs ∧ (c - c0) + vs.length ≤ us.length ∧ ∀ j u, vs[j]? = some u → us[c - c0 + j]? = some u
  | [], x, us, c0, c, z, h, hg => by
    unfold getP at hg; cases hg
    exact ⟨us, Nat.le_refl _, h, by omega, fun j u hu => by rw [Nat.sub_self, Nat.zero_add]; exact hu⟩
  | i :: p, .agg xs, us, c0, c, z, h, hg => by
    unfold getP at hg
    cases hx : xs[i]? with
    | none => rw [hx] at hg; cases hg
    | some y =>
      rw [hx] at hg
      simp only at hg
      unfold RA at h
      obtain ⟨vs, k1, k2, _, k4⟩ := RL.at i h hx
      obtain ⟨ws, m1, m2, m3, m4⟩ := getP_at p y vs _ c z k1 hg
      refine ⟨ws, by omega, m2, by omega, fun j u hu => ?_⟩
      have := k4 _ _ (m4 j u hu)
      rwa [show aszs (xs.take i) + (c - (c0 + aszs (xs.take i)) + j) = c - c0 + j from by omega] at this
  | i :: p, .v _, us, c0, c, z, h, hg => by simp [getP] at hg
  | i :: p, .any, us, c0, c, z, h, hg => by simp [getP] at hg
  | i :: p, .lst _ _, us, c0, c, z, h, hg => by simp [getP] at hg
  | i :: p, .ptr _, us, c0, c, z, h, hg => by simp [getP] at hg
  | i :: p, .own _, us, c0, c, z, h, hg => by simp [getP] at hg
  | i :: p, .optr _ _ _ _, us, c0, c, z, h, hg => by simp [getP] at hg
  | i :: p, .tup _, us, c0, c, z, h, hg => by simp [getP] at hg
theorem take_splice {α : Type} (cs vs : List α) (i j l : Nat) (h : i + j + vs.length ≤ i + l) :
    cs.take i ++ (((cs.drop i).take l).take j ++ vs ++ ((cs.drop i).take l).drop (j + vs.length)) ++ cs.drop (i + l) = cs.take (i + j) ++ vs ++ cs.drop (i + j + vs.length) := by
  have e1 : cs.take i ++ ((cs.drop i).take l).take j = cs.take (i + j) := by
    rw [List.take_take, Nat.min_eq_left (by omega), ← List.take_add]
  have e2 : ((cs.drop i).take l).drop (j + vs.length) ++ cs.drop (i + l) = cs.drop (i + j + vs.length) := by
    rw [List.drop_take, List.drop_drop]
    have : cs.drop (i + l) = (cs.drop (i + (j + vs.length))).drop (l - (j + vs.length)) := by rw [List.drop_drop]; congr 1; omega
    rw [this, List.take_append_drop]; congr 1; omega
  simp only [List.append_assoc] at *
  rw [e2, ← e1]; simp only [List.append_assoc]
theorem setP_at : ∀ (p : List Nat) (x : AV) (us : List Value) (c0 c : Nat) (z y : AV) (vs : List Value), RA S w x us → getP x p c0 = some (z, c) → RA S w y vs → asz y = asz z →
    RA S w (setP x p y) (us.take (c - c0) ++ vs ++ us.drop (c - c0 + vs.length)) ∧ asz (setP x p y) = asz x
  | [], x, us, c0, c, z, y, vs, h, hg, hy, hz => by
    unfold getP at hg; cases hg
    have e1 := RA.size _ _ h
    have e2 := RA.size _ _ hy
    simp only [setP, Nat.sub_self, List.take_zero, List.nil_append, Nat.zero_add]
    rw [List.drop_eq_nil_of_le (by omega), List.append_nil]
    exact ⟨hy, hz⟩
  | i :: p, .agg xs, us, c0, c, z, y, vs, h, hg, hy, hz => by
    unfold getP at hg
    cases hx : xs[i]? with
    | none => rw [hx] at hg; cases hg
    | some q =>
      rw [hx] at hg
      simp only at hg
      unfold RA at h
      obtain ⟨qs, k1, k2, k3, k4⟩ := RL.at i h hx
      obtain ⟨m1, m2⟩ := setP_at p q qs _ c z y vs k1 hg hy hz
      obtain ⟨ws, n1, n2, n3, _⟩ := getP_at p q qs _ c z k1 hg
      have e1 := RA.size _ _ k1
      have e2 := RA.size _ _ m1
      have e3 := RA.size _ _ n2
      have e4 := RA.size _ _ hy
      simp only [setP, hx]
      unfold RA
      refine ⟨?_, by unfold asz; exact aszs_set i hx m2⟩
      have := RL.set i h hx m1 m2
      rw [e2, m2, ← e1] at this
      obtain ⟨L, hL⟩ : ∃ L, L = qs.length := ⟨_, rfl⟩
      rw [← hL] at this k3 n3
      rw [← k3, take_splice us vs (aszs (xs.take i)) (c - (c0 + aszs (xs.take i))) L (by omega)] at this
      rwa [show aszs (xs.take i) + (c - (c0 + aszs (xs.take i))) = c - c0 from by omega] at this
  | i :: p, .v _, us, c0, c, z, y, vs, h, hg, _, _ => by simp [getP] at hg
  | i :: p, .any, us, c0, c, z, y, vs, h, hg, _, _ => by simp [getP] at hg
  | i :: p, .lst _ _, us, c0, c, z, y, vs, h, hg, _, _ => by simp [getP] at hg
  | i :: p, .ptr _, us, c0, c, z, y, vs, h, hg, _, _ => by simp [getP] at hg
  | i :: p, .own _, us, c0, c, z, y, vs, h, hg, _, _ => by simp [getP] at hg
  | i :: p, .optr _ _ _ _, us, c0, c, z, y, vs, h, hg, _, _ => by simp [getP] at hg
  | i :: p, .tup _, us, c0, c, z, y, vs, h, hg, _, _ => by simp [getP] at hg

theorem foldl_splice : ∀ (vs : List Value) (k off : Nat) (cells : Array Value), off + k + vs.length ≤ cells.size →
    ((vs.zipIdx k).foldl (fun cs (x : Value × Nat) => cs.setIfInBounds (off + x.2) x.1) cells).toList = cells.toList.take (off + k) ++ vs ++ cells.toList.drop (off + k + vs.length)
  | [], k, off, cells, _ => by simp
  | v :: vs, k, off, cells, h => by
    simp only [List.zipIdx_cons, List.foldl_cons]
    simp only [List.length_cons] at h
    rw [foldl_splice vs (k + 1) off _ (by simp; omega)]
    simp only [Array.toList_setIfInBounds, List.length_cons]
    rw [show off + (k + 1) = off + k + 1 from by omega, List.take_succ_eq_append_getElem (by simp; omega), List.take_set_of_le (Nat.le_refl _), List.getElem_set_self, List.drop_set_of_lt (by omega)]
    simp only [List.append_assoc, List.singleton_append]
    rw [show off + k + 1 + vs.length = off + k + (vs.length + 1) from by omega]

theorem fill_sound {place : Nat → Option (Nat × Nat)} {s : St} {a : Act} :
    ∀ (ps : List (Nat × Operand)) (z : List AV) (cells : Array Value), (∀ x ∈ ps, isDataA (s.dat (s.ev x.2)) = true → RA S w (s.dat (s.ev x.2)) (a.eval x.2).cells.toList) → RL S w z cells.toList → partsOK s z ps →
    (∀ i y, z[i]? = some y → place i = some (aszs (z.take i), asz y)) → ∃ cells', Instr.fill place cells (ps.map fun x => (x.1, a.eval x.2)) = some cells' ∧ RL S w (setParts s z ps) cells'.toList
  | [], z, cells, _, h, _, _ => ⟨cells, rfl, h⟩
  | (i, x) :: ps, z, cells, hall, h, hp, hpl => by
    obtain ⟨⟨y, hy, hsz⟩, hd, hp'⟩ := hp
    have hx : RA S w (s.dat (s.ev x)) (a.eval x).cells.toList := hall (i, x) (by simp) hd
    have e1 := RA.size _ _ hx
    obtain ⟨us, k1, k2, _, _⟩ := RL.at i h hy
    have e2 := RA.size _ _ k1
    simp only [List.map_cons, Instr.fill, hpl i y hy]
    have e3 : (a.eval x).cells.size = asz y := by rw [← hsz, ← e1]; simp
    have e4 : cells.toList.length = cells.size := Array.length_toList
    rw [if_neg (by simp; omega)]
    have hset := RL.set i h hy hx hsz
    have hfold := foldl_splice (a.eval x).cells.toList 0 (aszs (z.take i)) cells (by simp only [Array.length_toList]; omega)
    simp only [Nat.add_zero] at hfold
    have hz2 : ∀ k, aszs ((z.set i (s.dat (s.ev x))).take k) = aszs (z.take k) := fun k => by
      by_cases hk : i < k
      · rw [List.take_set]; exact aszs_set i (y := y) (by rw [List.getElem?_take, if_pos hk]; exact hy) hsz
      · rw [List.take_set_of_le (by omega)]
    refine fill_sound ps (z.set i (s.dat (s.ev x))) _ (fun q hq => hall q (List.mem_cons_of_mem _ hq)) ?_ hp' (fun k q hq => ?_)
    · rw [← Array.foldl_toList, Array.toList_zipIdx, hfold]; exact hset
    · rw [hz2]
      by_cases hk : k = i
      · subst hk
        have hlt : k < z.length := (List.getElem?_eq_some_iff.1 hy).1
        rw [List.getElem?_set_self hlt] at hq
        cases hq
        rw [hpl k y hy, hsz]
      · rw [List.getElem?_set_ne (Ne.symm hk)] at hq
        exact hpl k q hq

theorem made_sound {z : AV} {zc : Array Value} {sz : Nat} (h : RA S w z zc.toList) (hs : asz z = sz) (hp : 0 < sz) : ∀ n, RL S w (List.replicate n z) (madeCells zc (n * sz)).toList
  | 0 => by simp [madeCells, RL]
  | n + 1 => by
    have e1 := RA.size _ _ h
    have hzs : zc.size = sz := by rw [← Array.length_toList, e1, hs]
    rw [List.replicate_succ]
    unfold RL
    refine ⟨zc.toList, (madeCells zc (n * sz)).toList, ?_, h, made_sound h hs hp n⟩
    simp only [madeCells, Array.toList_map, Array.toList_range]
    rw [show (n + 1) * sz = sz + n * sz from by rw [Nat.add_mul, Nat.one_mul, Nat.add_comm], List.range_add, List.map_append, List.map_map]
    congr 1
    · apply List.ext_getElem
      · simp [hzs]
      · intro i h1 h2
        simp at h1
        simp [hzs, Nat.mod_eq_of_lt h1, Array.getElem!_eq_getD]
        rw [Array.getElem?_eq_getElem (by omega)]; rfl
    · apply List.map_congr_left
      intro i _
      simp [hzs]
end
end Go.Proofs.Ytciacgmdeaihlaa.AM
