/- A law's arguments opened: events, a watch, a reference. -/
import Derived.Test.YtnlobdhkpmeniaaG1
import Derived.Test.YtnlobdhkpmeniaaW1
namespace Go.Proofs.Ytnlobdhkpmeniaa.AM
open Go Go.RowKit Go.ChangeShapes Go.WideShapes Go.Deep
set_option linter.unusedVariables false
set_option linter.unusedSimpArgs false
def evtC (r : Evt) : List Value := [.int .i64 r.ver, .int .i64 r.head, .bool r.lag]
def evtsC (l : List Evt) : List Value := l.flatMap evtC
theorem evtsC_at : ∀ (l : List Evt) (j : Nat) (u : Value), (evtsC l)[j]? = some u → ∃ i, ∃ hi : i < l.length, (j = i * 3 ∧ u = .int .i64 l[i].ver) ∨ (j = i * 3 + 1 ∧ u = .int .i64 l[i].head) ∨ (j = i * 3 + 2 ∧ u = .bool l[i].lag)
  | [], j, u, h => by simp [evtsC] at h
  | r :: l, 0, u, h => by simp [evtsC, evtC] at h; exact ⟨0, by simp, .inl ⟨rfl, h.symm⟩⟩
  | r :: l, 1, u, h => by simp [evtsC, evtC] at h; exact ⟨0, by simp, .inr (.inl ⟨rfl, h.symm⟩)⟩
  | r :: l, 2, u, h => by simp [evtsC, evtC] at h; exact ⟨0, by simp, .inr (.inr ⟨rfl, h.symm⟩)⟩
  | r :: l, j + 3, u, h => by
    have h' : (evtsC l)[j]? = some u := by
      have : evtsC (r :: l) = evtC r ++ evtsC l := rfl
      rw [this, List.getElem?_append_right (by simp [evtC])] at h
      simpa [evtC] using h
    obtain ⟨i, hi, h⟩ := evtsC_at l j u h'
    refine ⟨i + 1, by simpa using hi, ?_⟩
    simp only [List.getElem_cons_succ]
    rcases h with ⟨h1, h2⟩ | ⟨h1, h2⟩ | ⟨h1, h2⟩
    · exact .inl ⟨by omega, h2⟩
    · exact .inr (.inl ⟨by omega, h2⟩)
    · exact .inr (.inr ⟨by omega, h2⟩)
section
variable {S : Nat → Prop} {w : World}
theorem rl_evts : ∀ (l : List Evt), RL S w (l.map evtA) (evtsC l)
  | [] => rl_nil
  | r :: l => by
    have : evtsC (r :: l) = evtC r ++ evtsC l := rfl
    rw [List.map_cons, this]
    exact rl_cons (ra_agg (rl_cons (c1 := [_]) (ra_v rfl) (rl_cons (c1 := [_]) (ra_v rfl) (rl_cons (c1 := [_]) (ra_v rfl) rl_nil)))) (rl_evts l)
end
section
variable {H : Type} {enc : TypeId × Value → H} {P : Program} {w : World} {base : Nat} {held : Bool}
theorem open_evts {t e : TypeId} {f0 f1 f2 : Field} {A : Option Addr} {n c : Nat} {d : DataW H} {p : List MemPlace} (ht : P.underlying t = some (.slice e)) (he : P.underlying e = some (.struct #[f0, f1, f2]))
    (hone : oneCellFields P #[f0, f1, f2] = true) (hC : P.cellsOf e = 3) (h0 : P.underlying f0.type = some (.int .i64)) (h1 : P.underlying f1.type = some (.int .i64)) (h2 : P.underlying f2.type = some .bool) (h : DataW.Trod enc P w base (fun _ => true) held t (.slice A n c) d p) :
    ∃ l : List Evt, (∀ hp B V, RV (InW w) w hp B V (.lst 3 (l.map evtA)) (.slice A n c)) ∧ l.length ≤ maxLen := by
  have hcap := open_cap ht h
  obtain ⟨hn, hf⟩ := open_fields ht he hone hC (by simp) h
  rcases Nat.eq_zero_or_pos n with h | hpos
  · subst h
    refine ⟨[], fun hp B V => ?_, Nat.zero_le _⟩
    simp only [List.map_nil]
    unfold RV RA
    exact ⟨_, _, rfl, Nat.zero_le _, hcap.2, by simp, by omega, .inl rfl⟩
  obtain ⟨b, off, rfl, hlt, hi⟩ := hf hpos
  obtain ⟨l, hl, hq⟩ := list_of (α := Evt) n (fun i x => w.cell? ⟨b, off + (i * 3 + 0), none⟩ = some (.int .i64 x.ver) ∧ w.cell? ⟨b, off + (i * 3 + 1), none⟩ = some (.int .i64 x.head) ∧ w.cell? ⟨b, off + (i * 3 + 2), none⟩ = some (.bool x.lag)) (fun i hin => by
    obtain ⟨k, hk⟩ := hi i hin
    obtain ⟨v0, y0, c0, t0⟩ := hk 0 f0 rfl
    obtain ⟨v1, y1, c1, t1⟩ := hk 1 f1 rfl
    obtain ⟨v2, y2, c2, t2⟩ := hk 2 f2 rfl
    obtain ⟨x, hx, _, _⟩ := DataW.trod_int h0 t0
    obtain ⟨y, hy, _, _⟩ := DataW.trod_int h1 t1
    obtain ⟨g, hg, _⟩ := DataW.trod_bool h2 t2
    simp at hx hy hg
    subst hx; subst hy; subst hg
    exact ⟨⟨x, y, g⟩, c0, c1, c2⟩)
  refine ⟨l, fun hp B V => ?_, by omega⟩
  unfold RV RA
  refine ⟨_, c, by rw [List.length_map, hl], by rw [List.length_map, hl]; exact hcap.1, hcap.2, all_evt _, by omega, .inr ⟨b, off, _, rfl, hlt, rl_evts l, fun j u hu => ?_⟩⟩
  obtain ⟨i, hi', h⟩ := evtsC_at _ j u hu
  obtain ⟨q0, q1, q2⟩ := hq i hi'
  rcases h with ⟨rfl, rfl⟩ | ⟨rfl, rfl⟩ | ⟨rfl, rfl⟩
  · exact q0
  · exact q1
  · exact q2
theorem list3 {α : Type} {l : List α} {a b c : α} (h : l.length = 3) (h0 : l[0]? = some a) (h1 : l[1]? = some b) (h2 : l[2]? = some c) : l = [a, b, c] := by
  match l, h with
  | [_, _, _], _ => simp at h0 h1 h2; subst h0 h1 h2; rfl
/-- a watch -/
theorem open_wat {t te : TypeId} {f0 f1 f2 g0 g1 g2 : Field} {cs : Array Value} {d : DataW H} {p : List MemPlace} (ht : P.underlying t = some (.struct #[f0, f1, f2])) (hone : oneCellFields P #[f0, f1, f2] = true) (hC : P.cellsOf t = 3)
    (h0 : P.underlying f0.type = some .string) (h1 : P.underlying f1.type = some (.int .i64)) (h2 : P.underlying f2.type = some (.slice te))
    (he : P.underlying te = some (.struct #[g0, g1, g2])) (hone1 : oneCellFields P #[g0, g1, g2] = true) (hC1 : P.cellsOf te = 3) (k0 : P.underlying g0.type = some (.int .i64)) (k1 : P.underlying g1.type = some (.int .i64)) (k2 : P.underlying g2.type = some .bool)
    (h : DataW.Trod enc P w base (fun _ => true) held t (.agg cs) d p) : ∃ x : Wat, (∀ hp B V, RV (InW w) w hp B V (watA x) (.agg cs)) ∧ x.ok maxLen := by
  obtain ⟨hl, k, hk⟩ := open_agg ht hone hC h
  obtain ⟨v0, y0, c0, t0⟩ := hk 0 f0 rfl
  obtain ⟨v1, y1, c1, t1⟩ := hk 1 f1 rfl
  obtain ⟨v2, y2, c2, t2⟩ := hk 2 f2 rfl
  obtain ⟨s0, hs0, _, hz0⟩ := DataW.trod_string h0 t0
  obtain ⟨x1, hx1, _, _⟩ := DataW.trod_int h1 t1
  simp at hs0 hx1
  subst hs0 hx1
  obtain ⟨A2, n2, c2', rfl⟩ := one_slice h2 t2
  obtain ⟨es, hes, hm⟩ := open_evts h2 he hone1 hC1 k0 k1 k2 (trod_of rfl t2)
  have hra := hes (fun _ => none) (fun _ => 0) (fun _ => undef)
  unfold RV at hra
  exact ⟨⟨s0, x1, es⟩, fun hp B V => rv_agg (list3 (by simpa using hl) c0 c1 c2) (rl_cons (c1 := [_]) (ra_v rfl) (rl_cons (c1 := [_]) (ra_v rfl) (rl_cons (c1 := [_]) hra rl_nil))), hz0, hm⟩
end
end Go.Proofs.Ytnlobdhkpmeniaa.AM
