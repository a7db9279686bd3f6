/- A law's arguments opened: commits. -/
import Derived.Test.YtnlobdhkpmeniaaAmP
import Derived.Test.YtnlobdhkpmeniaaE4
import Derived.Test.YtnlobdhkpmeniaaOpen
namespace Go.Proofs.Ytnlobdhkpmeniaa.AM
open Go Go.RowKit Go.ChangeShapes Go.WideShapes Go.Deep
set_option linter.unusedVariables false
set_option linter.unusedSimpArgs false

def pairsC : List (Value × Value) → List Value
  | [] => []
  | p :: l => p.1 :: p.2 :: pairsC l
theorem pairsC_at : ∀ (l : List (Value × Value)) (j : Nat) (u : Value), (pairsC l)[j]? = some u → ∃ i, ∃ hi : i < l.length, (j = i * 2 ∧ u = l[i].1) ∨ (j = i * 2 + 1 ∧ u = l[i].2)
  | [], j, u, h => by simp [pairsC] at h
  | p :: l, 0, u, h => by simp [pairsC] at h; exact ⟨0, by simp, .inl ⟨rfl, h.symm⟩⟩
  | p :: l, 1, u, h => by simp [pairsC] at h; exact ⟨0, by simp, .inr ⟨rfl, h.symm⟩⟩
  | p :: l, j + 2, u, h => by
    simp only [pairsC, List.getElem?_cons_succ] at h
    obtain ⟨i, hi, h⟩ := pairsC_at l j u h
    refine ⟨i + 1, by simpa using hi, ?_⟩
    simp only [List.getElem_cons_succ]
    rcases h with ⟨h1, h2⟩ | ⟨h1, h2⟩
    · exact .inl ⟨by omega, h2⟩
    · exact .inr ⟨by omega, h2⟩
section
variable {S : Nat → Prop} {w : World}
theorem rl_intA : ∀ (l : List Int), RL S w (l.map intA) (l.map fun x => .int .i64 x)
  | [] => by simp only [List.map_nil]; exact rl_nil
  | x :: l => by simp only [List.map_cons]; exact rl_cons (c1 := [_]) (ra_v rfl) (rl_intA l)
theorem rl_coms : ∀ (l : List (Cmt × Value × Value)), (∀ p ∈ l, RA S w (.lst 1 (p.1.1.map intA)) [p.2.1] ∧ RA S w (.lst 2 (p.1.2.map entA)) [p.2.2]) → RL S w ((l.map (·.1)).map comA) (pairsC (l.map (·.2)))
  | [], _ => by simp only [List.map_nil]; exact rl_nil
  | p :: l, h => by
    simp only [List.map_cons, pairsC]
    obtain ⟨h1, h2⟩ := h p (by simp)
    exact rl_cons (c1 := [_, _]) (ra_agg (rl_cons (c1 := [_]) h1 (rl_cons (c1 := [_]) h2 rl_nil))) (rl_coms l (fun q hq => h q (List.mem_cons_of_mem _ hq)))
end
section
variable {H : Type} {enc : TypeId × Value → H} {P : Program} {w : World} {base : Nat} {held : Bool}
theorem one_slice {t e : TypeId} {v : Value} {k : Nat} {y : DataW H × List MemPlace} (ht : P.underlying t = some (.slice e)) (h : DataW.trod enc P w base (fun _ => true) held k t [v] = some y) : ∃ A n c, v = .slice A n c := by
  rcases open_slice ht h with ⟨hcs, _⟩ | ⟨a, len, cap, m, n, D, Pl, hcs, _⟩
  · simp at hcs; exact ⟨_, _, _, hcs⟩
  · simp at hcs; exact ⟨_, _, _, hcs⟩
theorem open_ints {t e : TypeId} {v : Value} {k : Nat} {y : DataW H × List MemPlace} (ht : P.underlying t = some (.slice e)) (he : P.underlying e = some (.int .i64)) (hC : P.cellsOf e = 1) (h : DataW.trod enc P w base (fun _ => true) held k t [v] = some y) :
    ∃ l : List Int, RA (InW w) w (.lst 1 (l.map intA)) [v] ∧ l.length ≤ maxLen := by
  rcases open_slice ht h with ⟨hcs, _⟩ | ⟨a, len, cap, m, n, D, Pl, hcs, hb, hl, hm, hmm, hx, hi⟩
  · exact ⟨[], by rw [hcs]; exact ra_nil (by omega), Nat.zero_le _⟩
  · rw [hcs]
    simp at hmm
    subst hmm
    rcases Nat.eq_zero_or_pos len with h0 | hpos
    · subst h0
      refine ⟨[], ?_, Nat.zero_le _⟩
      simp only [List.map_nil]
      unfold RA
      exact ⟨_, _, rfl, Nat.zero_le _, hm, by simp, by omega, .inl rfl⟩
    have hall : ∀ i, i < len → ∃ x : Int, w.cell? (a.add i) = some (.int .i64 x) := fun i hil => by
      obtain ⟨cs', hc, ht'⟩ := hi i (by omega)
      rw [hC, Nat.mul_one] at hc
      obtain ⟨_, hcl, hat⟩ := World.cells?_some hc
      obtain ⟨x, hx, _⟩ := DataW.trod_int he ht'
      subst hx
      have := hat 0 (by omega)
      rw [add_zero_] at this
      exact ⟨x, this⟩
    obtain ⟨x0, hx0⟩ := hall 0 hpos
    rw [add_zero_] at hx0
    have hsp := spot_of_cell hx0
    obtain ⟨b, off, sp⟩ := a
    simp at hsp
    subst hsp
    have hadd : ∀ j, (⟨b, off, none⟩ : Addr).add j = ⟨b, off + j, none⟩ := fun j => by unfold Addr.add; split <;> simp_all
    obtain ⟨l, hll, hq⟩ := list_of (α := Int) len (fun i x => w.cell? ⟨b, off + i, none⟩ = some (.int .i64 x)) (fun i hil => by
      obtain ⟨x, hx⟩ := hall i hil
      rw [hadd] at hx; exact ⟨x, hx⟩)
    refine ⟨l, ?_, by omega⟩
    unfold RA
    refine ⟨_, _, by rw [List.length_map, hll], by rw [List.length_map]; omega, hm, all_int l, by omega, .inr ⟨b, off, _, rfl, World.block_lt_of_cell? w _ hx0, rl_intA l, fun j u hu => ?_⟩⟩
    rw [List.getElem?_map] at hu
    obtain ⟨x, hx, rfl⟩ := Option.map_eq_some_iff.1 hu
    obtain ⟨hj, hx⟩ := List.getElem?_eq_some_iff.1 hx
    rw [← hx]; exact hq j hj
theorem open_coms {t e te : TypeId} {f0 f1 g0 g1 : Field} {e0 : TypeId} {A : Option Addr} {n c : Nat} {d : DataW H} {p : List MemPlace} (ht : P.underlying t = some (.slice e)) (he : P.underlying e = some (.struct #[f0, f1]))
    (hone : oneCellFields P #[f0, f1] = true) (hC : P.cellsOf e = 2) (h0 : P.underlying f0.type = some (.slice e0)) (hi0 : P.underlying e0 = some (.int .i64)) (hC0 : P.cellsOf e0 = 1)
    (h1 : P.underlying f1.type = some (.slice te)) (h2 : P.underlying te = some (.struct #[g0, g1])) (hone1 : oneCellFields P #[g0, g1] = true) (hC1 : P.cellsOf te = 2) (k0 : P.underlying g0.type = some .string) (k1 : P.underlying g1.type = some (.int .i64)) (h : DataW.Trod enc P w base (fun _ => true) held t (.slice A n c) d p) :
    ∃ cs : List Cmt, (∀ hp B V, RV (InW w) w hp B V (.lst 2 (cs.map comA)) (.slice A n c)) ∧ cs.length ≤ maxLen ∧ comOK maxLen cs := by
  have hcap := open_cap ht h
  obtain ⟨hn, hf⟩ := open_fields ht he hone hC (by simp) h
  rcases Nat.eq_zero_or_pos n with h | hpos
  · subst h
    refine ⟨[], fun hp B V => ?_, Nat.zero_le _, fun c hc => by cases hc⟩
    simp only [List.map_nil]
    unfold RV RA
    exact ⟨_, _, rfl, Nat.zero_le _, hcap.2, by simp, by omega, .inl rfl⟩
  obtain ⟨b, off, rfl, hlt, hi⟩ := hf hpos
  obtain ⟨l, hl, hq⟩ := list_of (α := Cmt × Value × Value) n (fun i x => w.cell? ⟨b, off + (i * 2 + 0), none⟩ = some x.2.1 ∧ w.cell? ⟨b, off + (i * 2 + 1), none⟩ = some x.2.2 ∧ RA (InW w) w (.lst 1 (x.1.1.map intA)) [x.2.1] ∧ RA (InW w) w (.lst 2 (x.1.2.map entA)) [x.2.2] ∧ x.1.1.length ≤ maxLen ∧ x.1.2.length ≤ maxLen ∧ ∀ e ∈ x.1.2, e.1.size ≤ maxLen) (fun i hin => by
    obtain ⟨k, hk⟩ := hi i hin
    obtain ⟨v0, y0, c0, t0⟩ := hk 0 f0 rfl
    obtain ⟨v1, y1, c1, t1⟩ := hk 1 f1 rfl
    obtain ⟨ps, hps, hpl⟩ := open_ints h0 hi0 hC0 t0
    obtain ⟨A1, n1, c1', rfl⟩ := one_slice h1 t1
    have T1 : DataW.Trod enc P w base (fun _ => true) held f1.type (.slice A1 n1 c1') y1.1 y1.2 := ⟨k, by simpa [Value.cells] using t1⟩
    obtain ⟨es, hrd, hm, hks⟩ := open_ents h1 h2 hone1 hC1 k0 k1 T1
    have := rv_ents (hp := fun _ => none) (B := fun _ => 0) (V := fun _ => undef) (open_cap h1 T1) hrd
    unfold RV at this
    exact ⟨((ps, es), v0, _), c0, c1, hps, this, hpl, Nat.le_trans (Nat.le_of_eq hrd.len) hm, hks⟩)
  refine ⟨l.map (·.1), fun hp B V => ?_, by rw [List.length_map]; omega, fun c hc => ?_⟩
  · unfold RV RA
    refine ⟨_, c, by rw [List.length_map, List.length_map, hl], by rw [List.length_map, List.length_map]; omega, hcap.2, all_com _, by omega, .inr ⟨b, off, _, rfl, hlt, rl_coms l (fun p hp => by
      obtain ⟨i, hi', rfl⟩ := List.getElem_of_mem hp
      exact ⟨(hq i hi').2.2.1, (hq i hi').2.2.2.1⟩), fun j u hu => ?_⟩⟩
    obtain ⟨i, hi', h⟩ := pairsC_at _ j u hu
    rw [List.length_map] at hi'
    obtain ⟨q1, q2, _⟩ := hq i hi'
    rcases h with ⟨rfl, rfl⟩ | ⟨rfl, rfl⟩
    · simpa using q1
    · simpa using q2
  · obtain ⟨x, hx, rfl⟩ := List.mem_map.1 hc
    obtain ⟨i, hi', rfl⟩ := List.getElem_of_mem hx
    exact (hq i hi').2.2.2.2
end
end Go.Proofs.Ytnlobdhkpmeniaa.AM
