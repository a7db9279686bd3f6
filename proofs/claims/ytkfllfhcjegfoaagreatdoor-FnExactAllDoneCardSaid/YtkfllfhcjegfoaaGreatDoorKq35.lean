/- Texts of the machine over data, folded. -/
import Derived.Test.YtkfllfhcjegfoaaGreatDoorKq14
import Derived.Test.YtkfllfhcjegfoaaGreatDoorKq21
import Derived.Test.YtkfllfhcjegfoaaGreatDoorKq22
set_option linter.unusedVariables false
set_option linter.unusedSimpArgs false
namespace Go.Proofs.YtkfllfhcjegfoaaGreatDoor.AM
open Go Go.RowKit Go.ChangeShapes Go.WideShapes Go.Deep
def aDQ (r : Evt) : List Value := [.int .i64 r.ver, .int .i64 r.head, .bool r.lag]
def qU (l : List Evt) : List Value := l.flatMap aDQ
theorem aI8 : ∀ (l : List Evt) (j : Nat) (u : Value), (qU l)[j]? = some u → ∃ i, ∃ hi : i < l.length, (j = i * 3 ∧ u = .int .i64 l[i].ver) ∨ (j = i * 3 + 1 ∧ u = .int .i64 l[i].head) ∨ (j = i * 3 + 2 ∧ u = .bool l[i].lag)
 | [], j, u, h => by simp [qU] at h
 | r :: l, 0, u, h => by simp [qU, aDQ] at h; exact ⟨0, by simp, .inl ⟨rfl, h.symm⟩⟩
 | r :: l, 1, u, h => by simp [qU, aDQ] at h; exact ⟨0, by simp, .inr (.inl ⟨rfl, h.symm⟩)⟩
 | r :: l, 2, u, h => by simp [qU, aDQ] at h; exact ⟨0, by simp, .inr (.inr ⟨rfl, h.symm⟩)⟩
 | r :: l, j + 3, u, h => by
  have h' : (qU l)[j]? = some u := by
   have : qU (r :: l) = aDQ r ++ qU l := rfl
   rw [this, List.getElem?_append_right (by simp [aDQ])] at h
   simpa [aDQ] using h
  obtain ⟨i, hi, h⟩ := aI8 l j u h'
  refine ⟨i + 1, by simpa using hi, ?_⟩
  simp only [List.getElem_cons_succ]
  rcases h with ⟨h1, h2⟩ | ⟨h1, h2⟩ | ⟨h1, h2⟩
  · exact .inl ⟨by omega, h2⟩
  · exact .inr (.inl ⟨by omega, h2⟩)
  · exact .inr (.inr ⟨by omega, h2⟩)
section
variable {S : Nat → Prop} {w : World}
theorem aKl : ∀ (l : List Evt), RL S w (l.map zQ) (qU l)
 | [] => uL
 | r :: l => by
  have : qU (r :: l) = aDQ r ++ qU l := rfl
  rw [List.map_cons, this]
  exact xO (ra_agg (xO (c1 := [_]) (zR rfl) (xO (c1 := [_]) (zR rfl) (xO (c1 := [_]) (zR rfl) uL)))) (aKl l)
end
section
variable {H : Type} {enc : TypeId × Value → H} {P : Program} {w : World} {base : Nat} {held : Bool}
theorem aNj {t e : TypeId} {f0 f1 f2 : Field} {A : Option Addr} {n c : Nat} {d : DataW H} {p : List MemPlace} (ht : P.underlying t = some (.slice e)) (he : P.underlying e = some (.struct #[f0, f1, f2]))
 (hone : oneCellFields P #[f0, f1, f2] = true) (hC : P.cellsOf e = 3) (h0 : P.underlying f0.type = some (.int .i64)) (h1 : P.underlying f1.type = some (.int .i64)) (h2 : P.underlying f2.type = some .bool) (h : DataW.Trod enc P w base (fun _ => true) held t (.slice A n c) d p) :
 ∃ l : List Evt, (∀ hp B V, RV (InW w) w hp B V (.lst 3 (l.map zQ)) (.slice A n c)) ∧ l.length ≤ maxLen := by
 have hcap := kr ht h
 obtain ⟨hn, hf⟩ := j5 ht he hone hC (by simp) h
 rcases Nat.eq_zero_or_pos n with h | hpos
 · subst h
   refine ⟨[], fun hp B V => ?_, Nat.zero_le _⟩
   simp only [List.map_nil]
   unfold RV RA
   exact ⟨_, _, rfl, Nat.zero_le _, hcap.2, by simp, by omega, .inl rfl⟩
 obtain ⟨b, off, rfl, hlt, hi⟩ := hf hpos
 obtain ⟨l, hl, hq⟩ := jy (α := Evt) n (fun i x => w.cell? ⟨b, off + (i * 3 + 0), none⟩ = some (.int .i64 x.ver) ∧ w.cell? ⟨b, off + (i * 3 + 1), none⟩ = some (.int .i64 x.head) ∧ w.cell? ⟨b, off + (i * 3 + 2), none⟩ = some (.bool x.lag)) (fun i hin => by
  obtain ⟨k, hk⟩ := hi i hin
  obtain ⟨v0, y0, c0, t0⟩ := hk 0 f0 rfl
  obtain ⟨v1, y1, c1, t1⟩ := hk 1 f1 rfl
  obtain ⟨v2, y2, c2, t2⟩ := hk 2 f2 rfl
  obtain ⟨x, hx, _, _⟩ := DataW.trod_int h0 t0
  obtain ⟨y, hy, _, _⟩ := DataW.trod_int h1 t1
  obtain ⟨g, hg, _⟩ := DataW.trod_bool h2 t2
  simp at hx hy hg
  subst hx; subst hy; subst hg
  exact ⟨⟨x, y, g⟩, c0, c1, c2⟩)
 refine ⟨l, fun hp B V => ?_, by omega⟩
 unfold RV RA
 refine ⟨_, c, by rw [List.length_map, hl], by rw [List.length_map, hl]; exact hcap.1, hcap.2, aPb _, by omega, .inr ⟨b, off, _, rfl, hlt, aKl l, fun j u hu => ?_⟩⟩
 obtain ⟨i, hi', h⟩ := aI8 _ j u hu
 obtain ⟨q0, q1, q2⟩ := hq i hi'
 rcases h with ⟨rfl, rfl⟩ | ⟨rfl, rfl⟩ | ⟨rfl, rfl⟩
 · exact q0
 · exact q1
 · exact q2
theorem aRQ {α : Type} {l : List α} {a b c : α} (h : l.length = 3) (h0 : l[0]? = some a) (h1 : l[1]? = some b) (h2 : l[2]? = some c) : l = [a, b, c] := by
 match l, h with
 | [_, _, _], _ => simp at h0 h1 h2; subst h0 h1 h2; rfl
theorem open_wat {t te : TypeId} {f0 f1 f2 g0 g1 g2 : Field} {cs : Array Value} {d : DataW H} {p : List MemPlace} (ht : P.underlying t = some (.struct #[f0, f1, f2])) (hone : oneCellFields P #[f0, f1, f2] = true) (hC : P.cellsOf t = 3)
 (h0 : P.underlying f0.type = some .string) (h1 : P.underlying f1.type = some (.int .i64)) (h2 : P.underlying f2.type = some (.slice te))
 (he : P.underlying te = some (.struct #[g0, g1, g2])) (hone1 : oneCellFields P #[g0, g1, g2] = true) (hC1 : P.cellsOf te = 3) (k0 : P.underlying g0.type = some (.int .i64)) (k1 : P.underlying g1.type = some (.int .i64)) (k2 : P.underlying g2.type = some .bool)
 (h : DataW.Trod enc P w base (fun _ => true) held t (.agg cs) d p) : ∃ x : Wat, (∀ hp B V, RV (InW w) w hp B V (watA x) (.agg cs)) ∧ x.ok maxLen := by
 obtain ⟨hl, k, hk⟩ := aAF ht hone hC h
 obtain ⟨v0, y0, c0, t0⟩ := hk 0 f0 rfl
 obtain ⟨v1, y1, c1, t1⟩ := hk 1 f1 rfl
 obtain ⟨v2, y2, c2, t2⟩ := hk 2 f2 rfl
 obtain ⟨s0, hs0, _, hz0⟩ := DataW.trod_string h0 t0
 obtain ⟨x1, hx1, _, _⟩ := DataW.trod_int h1 t1
 simp at hs0 hx1
 subst hs0 hx1
 obtain ⟨A2, n2, c2', rfl⟩ := wP h2 t2
 obtain ⟨es, hes, hm⟩ := aNj h2 he hone1 hC1 k0 k1 k2 (qi rfl t2)
 have hra := hes (fun _ => none) (fun _ => 0) (fun _ => undef)
 unfold RV at hra
 exact ⟨⟨s0, x1, es⟩, fun hp B V => aAb (aRQ (by simpa using hl) c0 c1 c2) (xO (c1 := [_]) (zR rfl) (xO (c1 := [_]) (zR rfl) (xO (c1 := [_]) hra uL))), hz0, hm⟩
end
section
variable {H : Type} {enc : TypeId × Value → H} {P : Program} {w : World} {base : Nat} {held : Bool}
theorem aRO {α : Type} {l : List α} {a b c d e f g h i : α} (hl : l.length = 9) (h0 : l[0]? = some a) (h1 : l[1]? = some b) (h2 : l[2]? = some c) (h3 : l[3]? = some d) (h4 : l[4]? = some e) (h5 : l[5]? = some f) (h6 : l[6]? = some g) (h7 : l[7]? = some h) (h8 : l[8]? = some i) : l = [a, b, c, d, e, f, g, h, i] := by
 match l, hl with
 | [_, _, _, _, _, _, _, _, _], _ => simp at h0 h1 h2 h3 h4 h5 h6 h7 h8; subst h0 h1 h2 h3 h4 h5 h6 h7 h8; rfl
theorem open_cli {t te : TypeId} {f0 f1 f2 f3 f4 f5 f6 f7 f8 g0 g1 : Field} {cs : Array Value} {d : DataW H} {p : List MemPlace} (ht : P.underlying t = some (.struct #[f0, f1, f2, f3, f4, f5, f6, f7, f8])) (hone : oneCellFields P #[f0, f1, f2, f3, f4, f5, f6, f7, f8] = true) (hC : P.cellsOf t = 9)
 (hw : ∀ (v : Value) (k : Nat) (y : DataW H × List MemPlace), DataW.trod enc P w base (fun _ => true) held k f0.type [v] = some y → ∃ l : List Wsh, RA (InW w) w (.lst 5 (l.map wshA)) [v] ∧ l.length ≤ maxLen ∧ ∀ x ∈ l, x.ok maxLen)
 (i1 : P.underlying f1.type = some (.int .i64)) (i2 : P.underlying f2.type = some (.int .i64)) (i3 : P.underlying f3.type = some (.int .i64)) (i4 : P.underlying f4.type = some (.int .i64)) (i5 : P.underlying f5.type = some (.int .i64)) (i6 : P.underlying f6.type = some (.int .i64)) (i7 : P.underlying f7.type = some (.int .i64))
 (h8 : P.underlying f8.type = some (.slice te)) (he : P.underlying te = some (.struct #[g0, g1])) (hone1 : oneCellFields P #[g0, g1] = true) (hC1 : P.cellsOf te = 2) (k0 : P.underlying g0.type = some .string) (k1 : P.underlying g1.type = some (.int .i64))
 (h : DataW.Trod enc P w base (fun _ => true) held t (.agg cs) d p) : ∃ c : Cli, (∀ hp B V, RV (InW w) w hp B V (cliA c) (.agg cs)) ∧ c.ok := by
 obtain ⟨hl, k, hk⟩ := aAF ht hone hC h
 obtain ⟨v0, y0, c0, t0⟩ := hk 0 f0 rfl
 obtain ⟨v1, y1, c1, t1⟩ := hk 1 f1 rfl
 obtain ⟨v2, y2, c2, t2⟩ := hk 2 f2 rfl
 obtain ⟨v3, y3, c3, t3⟩ := hk 3 f3 rfl
 obtain ⟨v4, y4, c4, t4⟩ := hk 4 f4 rfl
 obtain ⟨v5, y5, c5, t5⟩ := hk 5 f5 rfl
 obtain ⟨v6, y6, c6, t6⟩ := hk 6 f6 rfl
 obtain ⟨v7, y7, c7, t7⟩ := hk 7 f7 rfl
 obtain ⟨v8, y8, c8, t8⟩ := hk 8 f8 rfl
 obtain ⟨ws, hws, hwl, hwk⟩ := hw _ _ _ t0
 obtain ⟨x1, e1, _, _⟩ := DataW.trod_int i1 t1
 obtain ⟨x2, e2, _, _⟩ := DataW.trod_int i2 t2
 obtain ⟨x3, e3, _, _⟩ := DataW.trod_int i3 t3
 obtain ⟨x4, e4, _, _⟩ := DataW.trod_int i4 t4
 obtain ⟨x5, e5, _, _⟩ := DataW.trod_int i5 t5
 obtain ⟨x6, e6, _, _⟩ := DataW.trod_int i6 t6
 obtain ⟨x7, e7, _, _⟩ := DataW.trod_int i7 t7
 simp at e1 e2 e3 e4 e5 e6 e7
 subst e1 e2 e3 e4 e5 e6 e7
 obtain ⟨A8, n8, c8', rfl⟩ := wP h8 t8
 have T8 := qi rfl t8
 obtain ⟨es, hrd, hm, hks⟩ := aDK h8 he hone1 hC1 k0 k1 T8
 have hra := aFp (hp := fun _ => none) (B := fun _ => 0) (V := fun _ => undef) (kr h8 T8) hrd
 unfold RV at hra
 refine ⟨⟨ws, x1, x2, x3, x4, x5, x6, x7, es⟩, fun hp B V => ?_, hwl, hwk, Nat.le_trans (Nat.le_of_eq hrd.len) hm, hks⟩
 exact aAb (aRO (by simpa using hl) c0 c1 c2 c3 c4 c5 c6 c7 c8) (xO (c1 := [_]) hws (xO (c1 := [_]) (zR rfl) (xO (c1 := [_]) (zR rfl) (xO (c1 := [_]) (zR rfl) (xO (c1 := [_]) (zR rfl) (xO (c1 := [_]) (zR rfl) (xO (c1 := [_]) (zR rfl) (xO (c1 := [_]) (zR rfl) (xO (c1 := [_]) hra uL)))))))))
theorem open_strc {α : Type} (A : α → AV) (ok : α → Prop) {m : Nat} {t e : TypeId} {v : Value} {k : Nat} {y : DataW H × List MemPlace} (ht : P.underlying t = some (.slice e)) (hC : P.cellsOf e = m) (h0 : 0 < m) (hA : ∀ x, asz (A x) = m) (hag : ∀ x, ∃ ys, A x = .agg ys)
 (hel : ∀ (cs : Array Value) (d : DataW H) (p : List MemPlace), DataW.Trod enc P w base (fun _ => true) held e (.agg cs) d p → ∃ x, (∀ hp B V, RV (InW w) w hp B V (A x) (.agg cs)) ∧ ok x)
 (h : DataW.trod enc P w base (fun _ => true) held k t [v] = some y) : ∃ l : List α, RA (InW w) w (.lst m (l.map A)) [v] ∧ l.length ≤ maxLen ∧ ∀ x ∈ l, ok x :=
 aO3 A ok ht hC h0 hA (fun cs k y h => by
  obtain ⟨x, hx, hok⟩ := hel _ _ _ (aCT h)
  obtain ⟨ys, e⟩ := hag x
  refine ⟨x, ?_, hok⟩
  rw [e] at hx ⊢
  exact aBb hx) h
theorem open_wld {t : TypeId} {f0 f1 f2 f3 f4 : Field} {cs : Array Value} {d : DataW H} {p : List MemPlace} (ht : P.underlying t = some (.struct #[f0, f1, f2, f3, f4])) (hC : P.cellsOf t = 6)
 (hof : f0.offset = 0 ∧ f1.offset = 2 ∧ f2.offset = 3 ∧ f3.offset = 4 ∧ f4.offset = 5) (hce : P.cellsOf f0.type = 2 ∧ P.cellsOf f1.type = 1 ∧ P.cellsOf f2.type = 1 ∧ P.cellsOf f3.type = 1 ∧ P.cellsOf f4.type = 1)
 (h0 : ∀ (cs : Array Value) (d : DataW H) (p : List MemPlace), DataW.Trod enc P w base (fun _ => true) held f0.type (.agg cs) d p → ∃ b : Bas, (∀ hp B V, RV (InW w) w hp B V (uh b) (.agg cs)) ∧ (b.store.length ≤ maxLen ∧ wF maxLen b.store) ∧ b.refs.length ≤ maxLen ∧ ∀ r ∈ b.refs, r.name.size ≤ maxLen)
 (h1 : ∀ (v : Value) (k : Nat) (y : DataW H × List MemPlace), DataW.trod enc P w base (fun _ => true) held k f1.type [v] = some y → ∃ l : List Cli, RA (InW w) w (.lst 9 (l.map cliA)) [v] ∧ l.length ≤ maxLen ∧ ∀ x ∈ l, x.ok)
 (h2 : ∀ (v : Value) (k : Nat) (y : DataW H × List MemPlace), DataW.trod enc P w base (fun _ => true) held k f2.type [v] = some y → ∃ l : List Wat, RA (InW w) w (.lst 3 (l.map watA)) [v] ∧ l.length ≤ maxLen ∧ ∀ x ∈ l, x.ok maxLen)
 (h3 : ∀ (v : Value) (k : Nat) (y : DataW H × List MemPlace), DataW.trod enc P w base (fun _ => true) held k f3.type [v] = some y → ∃ l : List Mom, RA (InW w) w (.lst 13 (l.map momA)) [v] ∧ l.length ≤ maxLen ∧ ∀ x ∈ l, x.ok)
 (h4 : P.underlying f4.type = some (.int .i64))
 (h : DataW.Trod enc P w base (fun _ => true) held t (.agg cs) d p) : ∃ (B : Bas) (cl : List Cli) (wt : List Wat) (ms : List Mom) (sp : Int), (∀ hp B' V, RV (InW w) w hp B' V (zf B cl wt ms sp) (.agg cs)) ∧ ((B.store.length ≤ maxLen ∧ wF maxLen B.store) ∧ B.refs.length ≤ maxLen ∧ ∀ r ∈ B.refs, r.name.size ≤ maxLen) ∧ (cl.length ≤ maxLen ∧ ∀ x ∈ cl, x.ok) ∧ (wt.length ≤ maxLen ∧ ∀ x ∈ wt, x.ok maxLen) ∧ (ms.length ≤ maxLen ∧ ∀ x ∈ ms, x.ok) ∧ (Lit.int .i64 sp).wf = true := by
 obtain ⟨fuel, hf⟩ := h
 obtain ⟨xs, n', hn', hy, hl, hlen, hg⟩ := DataW.trod_struct ht hf
 have hL : cs.toList.length = 6 := by rw [hC] at hl; simpa [Value.cells] using hl
 have e : (Value.cells (.agg cs)).toList = cs.toList := rfl
 rw [e] at hg
 obtain ⟨o0, o1, o2, o3, o4⟩ := hof
 obtain ⟨q0, q1, q2, q3, q4⟩ := hce
 have hx : ∀ j (hj : j < 5), xs[j]? = some (xs[j]'(by have : xs.length = 5 := hlen; omega)) := fun j hj => List.getElem?_eq_getElem _
 have t0 := (hg 0 f0 rfl).trans (hx 0 (by omega))
 have t1 := (hg 1 f1 rfl).trans (hx 1 (by omega))
 have t2 := (hg 2 f2 rfl).trans (hx 2 (by omega))
 have t3 := (hg 3 f3 rfl).trans (hx 3 (by omega))
 have t4 := (hg 4 f4 rfl).trans (hx 4 (by omega))
 rw [o0, q0] at t0
 rw [o1, q1] at t1
 rw [o2, q2] at t2
 rw [o3, q3] at t3
 rw [o4, q4] at t4
 have hsplit : ∃ v2 v3 v4 v5, cs.toList = (cs.toList.drop 0).take 2 ++ ([v2] ++ ([v3] ++ ([v4] ++ ([v5] ++ [])))) ∧ (cs.toList.drop 2).take 1 = [v2] ∧ (cs.toList.drop 3).take 1 = [v3] ∧ (cs.toList.drop 4).take 1 = [v4] ∧ (cs.toList.drop 5).take 1 = [v5] := by
  generalize cs.toList = l at hL
  match l, hL with
  | [_, _, _, _, _, _], _ => exact ⟨_, _, _, _, rfl, rfl, rfl, rfl, rfl⟩
 obtain ⟨v2, v3, v4, v5, hsp, d2, d3, d4, d5⟩ := hsplit
 rw [d2] at t1
 rw [d3] at t2
 rw [d4] at t3
 rw [d5] at t4
 obtain ⟨b, hb, hbk⟩ := h0 _ _ _ (aCT t0)
 obtain ⟨cl, hcl, hck⟩ := h1 _ _ _ t1
 obtain ⟨wt, hwt, hwk⟩ := h2 _ _ _ t2
 obtain ⟨ms, hms, hmk⟩ := h3 _ _ _ t3
 obtain ⟨sp, hsp5, _, hwf⟩ := DataW.trod_int h4 t4
 simp at hsp5
 subst hsp5
 exact ⟨b, cl, wt, ms, sp, fun hp B V => aAb hsp (xO (aBb hb) (xO hcl (xO hwt (xO hms (xO (zR rfl) uL))))), hbk, hck, hwk, hmk, hwf⟩
end
end Go.Proofs.YtkfllfhcjegfoaaGreatDoor.AM
