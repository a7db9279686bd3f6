/- A law's arguments opened: references. -/
import Derived.Test.YtjhimcddgkoghaaAmP
import Derived.Test.YtjhimcddgkoghaaF1
import Derived.Test.YtjhimcddgkoghaaOpen
namespace Go.Proofs.Ytjhimcddgkoghaa.AM
open Go Go.RowKit Go.ChangeShapes Go.WideShapes Go.Deep
set_option linter.unusedVariables false
set_option linter.unusedSimpArgs false
def refC (r : Rf) : List Value := [.string r.name, .int .i64 r.head, .int .i64 r.ver, .bool r.gone]
def refsC (l : List Rf) : List Value := l.flatMap refC
theorem refsC_length : ∀ l : List Rf, (refsC l).length = l.length * 4
  | [] => rfl
  | r :: l => by
    have := refsC_length l
    simp only [refsC, List.flatMap_cons, List.length_append, List.length_cons] at *
    rw [this]; simp [refC]; omega
theorem refsC_at : ∀ (l : List Rf) (j : Nat) (u : Value), (refsC l)[j]? = some u → ∃ i, ∃ hi : i < l.length, (j = i * 4 ∧ u = .string l[i].name) ∨ (j = i * 4 + 1 ∧ u = .int .i64 l[i].head) ∨ (j = i * 4 + 2 ∧ u = .int .i64 l[i].ver) ∨ (j = i * 4 + 3 ∧ u = .bool l[i].gone)
  | [], j, u, h => by simp [refsC] at h
  | r :: l, 0, u, h => by simp [refsC, refC] at h; exact ⟨0, by simp, .inl ⟨rfl, h.symm⟩⟩
  | r :: l, 1, u, h => by simp [refsC, refC] at h; exact ⟨0, by simp, .inr (.inl ⟨rfl, h.symm⟩)⟩
  | r :: l, 2, u, h => by simp [refsC, refC] at h; exact ⟨0, by simp, .inr (.inr (.inl ⟨rfl, h.symm⟩))⟩
  | r :: l, 3, u, h => by simp [refsC, refC] at h; exact ⟨0, by simp, .inr (.inr (.inr ⟨rfl, h.symm⟩))⟩
  | r :: l, j + 4, u, h => by
    have h' : (refsC l)[j]? = some u := by
      have : refsC (r :: l) = refC r ++ refsC l := rfl
      rw [this, List.getElem?_append_right (by simp [refC])] at h
      simpa [refC] using h
    obtain ⟨i, hi, h⟩ := refsC_at l j u h'
    refine ⟨i + 1, by simpa using hi, ?_⟩
    simp only [List.getElem_cons_succ]
    rcases h with ⟨h1, h2⟩ | ⟨h1, h2⟩ | ⟨h1, h2⟩ | ⟨h1, h2⟩
    · exact .inl ⟨by omega, h2⟩
    · exact .inr (.inl ⟨by omega, h2⟩)
    · exact .inr (.inr (.inl ⟨by omega, h2⟩))
    · exact .inr (.inr (.inr ⟨by omega, h2⟩))
section
variable {S : Nat → Prop} {w : World}
theorem rl_refs : ∀ (l : List Rf), RL S w (l.map refA) (refsC l)
  | [] => rl_nil
  | r :: l => by
    have : refsC (r :: l) = refC r ++ refsC l := rfl
    rw [List.map_cons, this]
    exact rl_cons (ra_agg (rl_cons (c1 := [_]) (ra_v rfl) (rl_cons (c1 := [_]) (ra_v rfl) (rl_cons (c1 := [_]) (ra_v rfl) (rl_cons (c1 := [_]) (ra_v rfl) rl_nil))))) (rl_refs l)
end
section
variable {H : Type} {enc : TypeId × Value → H} {P : Program} {w : World} {base : Nat} {held : Bool}
theorem open_refs {t e : TypeId} {f0 f1 f2 f3 : Field} {A : Option Addr} {n c : Nat} {d : DataW H} {p : List MemPlace} (ht : P.underlying t = some (.slice e)) (he : P.underlying e = some (.struct #[f0, f1, f2, f3]))
    (hone : oneCellFields P #[f0, f1, f2, f3] = true) (hC : P.cellsOf e = 4) (h0 : P.underlying f0.type = some .string) (h1 : P.underlying f1.type = some (.int .i64)) (h2 : P.underlying f2.type = some (.int .i64)) (h3 : P.underlying f3.type = some .bool) (h : DataW.Trod enc P w base (fun _ => true) held t (.slice A n c) d p) :
    ∃ l : List Rf, (∀ hp B V, RV (InW w) w hp B V (.lst 4 (l.map refA)) (.slice A n c)) ∧ l.length ≤ maxLen ∧ ∀ r ∈ l, r.name.size ≤ maxLen := by
  have hcap := open_cap ht h
  obtain ⟨hn, hf⟩ := open_fields ht he hone hC (by simp) h
  rcases Nat.eq_zero_or_pos n with h | hpos
  · subst h
    refine ⟨[], fun hp B V => ?_, Nat.zero_le _, fun c hc => by cases hc⟩
    simp only [List.map_nil]
    unfold RV RA
    exact ⟨_, _, rfl, Nat.zero_le _, hcap.2, by simp, by omega, .inl rfl⟩
  obtain ⟨b, off, rfl, hlt, hi⟩ := hf hpos
  obtain ⟨l, hl, hq⟩ := list_of (α := Rf) n (fun i x => w.cell? ⟨b, off + (i * 4 + 0), none⟩ = some (.string x.name) ∧ w.cell? ⟨b, off + (i * 4 + 1), none⟩ = some (.int .i64 x.head) ∧ w.cell? ⟨b, off + (i * 4 + 2), none⟩ = some (.int .i64 x.ver) ∧ w.cell? ⟨b, off + (i * 4 + 3), none⟩ = some (.bool x.gone) ∧ x.name.size ≤ maxLen) (fun i hin => by
    obtain ⟨k, hk⟩ := hi i hin
    obtain ⟨v0, y0, c0, t0⟩ := hk 0 f0 rfl
    obtain ⟨v1, y1, c1, t1⟩ := hk 1 f1 rfl
    obtain ⟨v2, y2, c2, t2⟩ := hk 2 f2 rfl
    obtain ⟨v3, y3, c3, t3⟩ := hk 3 f3 rfl
    obtain ⟨s, hs, _, hsz⟩ := DataW.trod_string h0 t0
    obtain ⟨x, hx, _, _⟩ := DataW.trod_int h1 t1
    obtain ⟨y, hy, _, _⟩ := DataW.trod_int h2 t2
    obtain ⟨g, hg, _⟩ := DataW.trod_bool h3 t3
    simp at hs hx hy hg
    subst hs; subst hx; subst hy; subst hg
    exact ⟨⟨s, x, y, g⟩, c0, c1, c2, c3, hsz⟩)
  refine ⟨l, fun hp B V => ?_, by omega, fun r hr => ?_⟩
  · unfold RV RA
    refine ⟨_, c, by rw [List.length_map, hl], by rw [List.length_map, hl]; exact hcap.1, hcap.2, all_ref _, by omega, .inr ⟨b, off, _, rfl, hlt, rl_refs l, fun j u hu => ?_⟩⟩
    obtain ⟨i, hi', h⟩ := refsC_at _ j u hu
    obtain ⟨q0, q1, q2, q3, _⟩ := hq i hi'
    rcases h with ⟨rfl, rfl⟩ | ⟨rfl, rfl⟩ | ⟨rfl, rfl⟩ | ⟨rfl, rfl⟩
    · exact q0
    · exact q1
    · exact q2
    · exact q3
  · obtain ⟨i, hi', rfl⟩ := List.getElem_of_mem hr
    exact (hq i hi').2.2.2.2
end
end Go.Proofs.Ytjhimcddgkoghaa.AM
