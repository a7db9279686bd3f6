/- Texts of the machine over data, folded. -/
import Derived.Test.YtkfllfhcjegfoaaGreatDoorKq6
import Derived.ProofKit
import Derived.OpenShut
import Derived.ShutString
import Derived.Test.YtkfllfhcjegfoaaGreatDoorKq9
import Derived.Test.YtkfllfhcjegfoaaGreatDoorKq11
import Derived.Test.YtkfllfhcjegfoaaGreatDoorKq7
import Derived.Laws.StructEq
set_option linter.unusedVariables false
set_option linter.unusedSimpArgs false
set_option maxRecDepth 100000
namespace Go.Proofs.YtkfllfhcjegfoaaGreatDoor
open Go.RowKit Go.ChangeShapes Go.WideShapes Go.Deep
theorem kX (a : Addr) : a.add 0 = a := by unfold Addr.add; simp
theorem qZ {w : World} {a : Addr} {v : Value} (h : w.cell? a = some v) : a.spot = none := by
 unfold World.cell? at h
 cases hs : a.spot with
 | none => rfl
 | some x => simp [hs] at h; split at h <;> simp at h
section
variable {H : Type} {enc : TypeId × Value → H} {P : Program} {w : World} {base : Nat} {spare : Nat → Bool} {held : Bool}
theorem aDi {t e : TypeId} {fs : Array Field} {fuel : Nat} {cs : List Value} {x : DataW H × List MemPlace} (ht : P.underlying t = some (.slice e)) (he : P.underlying e = some (.struct fs))
 (hone : oneCellFields P fs = true) (hC : P.cellsOf e = fs.size) (h : DataW.trod enc P w base spare held fuel t cs = some x) :
 (cs = [.slice none 0 0] ∧ x = (.nil, [])) ∨
 ∃ (a : Addr) (len cap m : Nat) (D : Nat → DataW H) (Pl : Nat → List MemPlace), cs = [.slice (some a) len cap] ∧ base ≤ a.block ∧ len ≤ cap ∧ cap ≤ maxLen ∧ m = (if spare a.block then cap else len) ∧
  x = (.slice ((List.range len).map D) ((List.range (m - len)).map fun j => D (len + j)), MemPlace.row a (m * fs.size) ++ (List.range m).flatMap Pl) ∧
  ∀ i, i < m → ∃ (ys : List (DataW H × List MemPlace)) (n : Nat), D i = .agg (ys.map (·.1)) ∧ Pl i = ys.flatMap (·.2) ∧ ys.length = fs.size ∧
   ∀ (j : Nat) (f : Field), fs[j]? = some f → ∃ (v : Value) (y : DataW H × List MemPlace), w.cell? (a.add (i * fs.size + j)) = some v ∧ ys[j]? = some y ∧ DataW.trod enc P w base spare held n f.type [v] = some y := by
 rcases open_slice ht h with h0 | ⟨a, len, cap, m, n, D, Pl, hcs, hb, hl, hm, hmm, hx, hi⟩
 · exact .inl h0
 · refine .inr ⟨a, len, cap, m, D, Pl, hcs, hb, hl, hm, hmm, by rw [hC] at hx; exact hx, fun i him => ?_⟩
   obtain ⟨cs', hc, ht'⟩ := hi i him
   rw [hC] at hc
   obtain ⟨ys, n', hn', hy, hlen, hyl, hf⟩ := DataW.trod_struct he ht'
   obtain ⟨_, hcl, hat⟩ := World.cells?_some hc
   simp only [Prod.mk.injEq] at hy
   refine ⟨ys, n', hy.1, hy.2, hyl, fun j f hj => ?_⟩
   obtain ⟨ho, hk⟩ := hone_of hone j f hj
   have hjl : j < fs.size := (Array.getElem?_eq_some_iff.1 hj).1
   have hcell := hat j hjl
   have hv : cs'[j]? = some (cs'[j]'(by omega)) := List.getElem?_eq_getElem (by omega)
   have h1 := hf j f hj
   rw [ho, hk] at h1
   have hone' : (cs'.drop j).take 1 = [cs'[j]'(by omega)] := by
    rw [List.drop_eq_getElem_cons (by omega)]
    rfl
   rw [hone'] at h1
   have hys : ys[j]? = some (ys[j]'(by omega)) := List.getElem?_eq_getElem (by omega)
   refine ⟨_, _, ?_, hys, h1.trans hys⟩
   rw [← Go.Deep.add_add, hcell, hv]
theorem j5 {t e : TypeId} {fs : Array Field} {A : Option Addr} {n c : Nat} {d : DataW H} {p : List MemPlace} (ht : P.underlying t = some (.slice e)) (he : P.underlying e = some (.struct fs))
 (hone : oneCellFields P fs = true) (hC : P.cellsOf e = fs.size) (h0 : 0 < fs.size) (h : DataW.Trod enc P w base (fun _ => true) held t (.slice A n c) d p) :
 n ≤ maxLen ∧ (0 < n → ∃ b off, A = some ⟨b, off, none⟩ ∧ b < w.heap.size ∧ ∀ i, i < n → ∃ k, ∀ (j : Nat) (f : Field), fs[j]? = some f → ∃ (v : Value) (y : DataW H × List MemPlace), w.cell? ⟨b, off + (i * fs.size + j), none⟩ = some v ∧ DataW.trod enc P w base (fun _ => true) held k f.type [v] = some y) := by
 obtain ⟨fuel, hf⟩ := h
 rcases aDi ht he hone hC hf with ⟨hcs, _⟩ | ⟨a, len, cap, m, D, Pl, hcs, _, hl, hm, hmm, _, hi⟩
 · simp [Value.cells] at hcs
   obtain ⟨rfl, rfl, rfl⟩ := hcs
   exact ⟨Nat.zero_le _, fun h => absurd h (by omega)⟩
 · simp [Value.cells] at hcs
   obtain ⟨rfl, rfl, rfl⟩ := hcs
   simp at hmm
   subst hmm
   refine ⟨Nat.le_trans hl hm, fun hn => ?_⟩
   have hz := hi 0 (by omega)
   obtain ⟨_, _, _, _, _, hz⟩ := hz
   obtain ⟨v, y, hcell, _⟩ := hz 0 (fs[0]) (by simp [h0])
   rw [Nat.zero_mul, Nat.zero_add, kX] at hcell
   have hsp := qZ hcell
   obtain ⟨b, off, sp⟩ := a
   simp at hsp
   subst hsp
   have hadd : ∀ j, (⟨b, off, none⟩ : Addr).add j = ⟨b, off + j, none⟩ := fun j => by unfold Addr.add; split <;> simp_all
   refine ⟨b, off, rfl, ?_, fun i hin => ?_⟩
   · exact World.block_lt_of_cell? w _ hcell
   · obtain ⟨ys, k, _, _, _, hj⟩ := hi i (by omega)
     refine ⟨k, fun j f hf => ?_⟩
     obtain ⟨v, y, hcell, _, hty⟩ := hj j f hf
     rw [hadd] at hcell
     exact ⟨v, y, hcell, hty⟩
end
theorem jy {α : Type} (n : Nat) (Q : Nat → α → Prop) (h : ∀ i, i < n → ∃ a, Q i a) : ∃ l : List α, l.length = n ∧ ∀ i (hi : i < l.length), Q i l[i] := by
 induction n with
 | zero => exact ⟨[], rfl, fun i hi => absurd hi (by simp)⟩
 | succ n ih =>
  obtain ⟨l, hl, hq⟩ := ih fun i hi => h i (by omega)
  obtain ⟨a, ha⟩ := h n (by omega)
  refine ⟨l ++ [a], by simp [hl], fun i hi => ?_⟩
  rw [List.length_append, List.length_singleton] at hi
  rcases Nat.lt_or_ge i l.length with hlt | hge
  · rw [List.getElem_append_left hlt]; exact hq i hlt
  · have : i = l.length := by omega
    subst this
    rw [List.getElem_append_right (Nat.le_refl _)]
    simp only [Nat.sub_self, List.getElem_cons_zero]
    rw [hl]; exact ha
section
variable {H : Type} {enc : TypeId × Value → H} {P : Program} {w : World} {base : Nat} {held : Bool}
theorem aDK {t e : TypeId} {f0 f1 : Field} {A : Option Addr} {n c : Nat} {d : DataW H} {p : List MemPlace} (ht : P.underlying t = some (.slice e)) (he : P.underlying e = some (.struct #[f0, f1]))
 (hone : oneCellFields P #[f0, f1] = true) (hC : P.cellsOf e = 2) (h0 : P.underlying f0.type = some .string) (h1 : P.underlying f1.type = some (.int .i64)) (h : DataW.Trod enc P w base (fun _ => true) held t (.slice A n c) d p) :
 ∃ es : List Ent, Rd w 2 A n (xG es) ∧ n ≤ maxLen ∧ ∀ e ∈ es, e.1.size ≤ maxLen := by
 obtain ⟨hn, hf⟩ := j5 ht he hone hC (by simp) h
 rcases Nat.eq_zero_or_pos n with h | hpos
 · subst h
   exact ⟨[], ⟨by simp [xG], fun h => absurd h (by omega)⟩, hn, by simp⟩
 obtain ⟨b, off, rfl, hlt, hi⟩ := hf hpos
 obtain ⟨es, hl, hes⟩ := jy (α := Ent) n (fun i x => w.cell? ⟨b, off + (i * 2 + 0), none⟩ = some (.string x.1) ∧ w.cell? ⟨b, off + (i * 2 + 1), none⟩ = some (.int .i64 x.2) ∧ x.1.size ≤ maxLen) (fun i hin => by
  obtain ⟨k, hk⟩ := hi i hin
  obtain ⟨v0, y0, c0, t0⟩ := hk 0 f0 rfl
  obtain ⟨v1, y1, c1, t1⟩ := hk 1 f1 rfl
  obtain ⟨s, hs, _, hsz⟩ := DataW.trod_string h0 t0
  obtain ⟨x, hx, _, _⟩ := DataW.trod_int h1 t1
  simp at hs hx
  subst hs; subst hx
  exact ⟨(s, x), c0, c1, hsz⟩)
 refine ⟨es, ⟨by rw [yU, hl], fun _ => ⟨b, off, rfl, hlt, fun j u hj => ?_⟩⟩, hn, fun e he => ?_⟩
 · have hjl : j < es.length * 2 := by
    rcases Nat.lt_or_ge j (es.length * 2) with h | h
    · exact h
    · rw [List.getElem?_eq_none (by rw [yU]; exact h)] at hj; cases hj
   have hq : j / 2 < es.length := by omega
   obtain ⟨a0, a1, _⟩ := hes (j / 2) hq
   have hm : j = j / 2 * 2 + j % 2 := by omega
   rcases Nat.mod_two_eq_zero_or_one j with h2 | h2
   · rw [h2] at hm
     rw [Nat.add_zero] at hm
     rw [hm, aGo es _ hq] at hj
     simp at hj
     rw [Nat.add_zero] at a0
     rw [hm, ← hj]; exact a0
   · rw [h2] at hm
     rw [hm, aGs es _ hq] at hj
     simp at hj
     rw [hm, ← hj]; exact a1
 · obtain ⟨i, hi', rfl⟩ := List.getElem_of_mem he
   exact (hes i hi').2.2
end
end Go.Proofs.YtkfllfhcjegfoaaGreatDoor
namespace Go.Proofs.YtkfllfhcjegfoaaGreatDoor.AM
open Go Go.RowKit Go.ChangeShapes Go.WideShapes Go.Deep
section
variable {H : Type} {enc : TypeId × Value → H} {P : Program} {w : World} {base : Nat} {spare : Nat → Bool} {held : Bool}
theorem kr {t e : TypeId} {A : Option Addr} {n c : Nat} {d : DataW H} {p : List MemPlace} (ht : P.underlying t = some (.slice e)) (h : DataW.Trod enc P w base spare held t (.slice A n c) d p) : n ≤ c ∧ c ≤ maxLen := by
 obtain ⟨fuel, hf⟩ := h
 rcases open_slice ht hf with ⟨hcs, _⟩ | ⟨a, len, cap, m, n', D, Pl, hcs, hb, hl, hm, _⟩
 · simp [Value.cells] at hcs; obtain ⟨rfl, rfl, rfl⟩ := hcs; exact ⟨Nat.le_refl _, Nat.zero_le _⟩
 · simp [Value.cells] at hcs; obtain ⟨rfl, rfl, rfl⟩ := hcs; exact ⟨hl, hm⟩
end
section
variable {w : World} {hp : Nat → Option OB} {B : Nat → Nat} {V : Nat → Value}
def InW (w : World) : Nat → Prop := fun b => b < w.heap.size
theorem aPA {sz : Nat} {A : Option Addr} {n : Nat} {xs : List Value} (h : Rd w sz A n xs) (hn : 0 < n) : ∃ b off, A = some ⟨b, off, none⟩ ∧ InW w b ∧ ∀ j u, xs[j]? = some u → w.cell? ⟨b, off + j, none⟩ = some u := by
 obtain ⟨b, off, h1, h2, h3⟩ := h.2 hn
 exact ⟨b, off, h1, h2, h3⟩
theorem aFp {A : Option Addr} {n c : Nat} {es : List Ent} (hc : n ≤ c ∧ c ≤ maxLen) (h : Rd w 2 A n (xG es)) : RV (InW w) w hp B V (.lst 2 (es.map xP)) (.slice A n c) := by
 have hl := h.len
 unfold RV; unfold RA
 refine ⟨A, c, by rw [List.length_map, hl], by rw [List.length_map, hl]; exact hc.1, hc.2, aAH _, by omega, ?_⟩
 rcases Nat.eq_zero_or_pos n with h0 | h0
 · exact .inl (by rw [List.map_eq_nil_iff]; exact List.eq_nil_of_length_eq_zero (by omega))
 · obtain ⟨b, off, h1, h2, h3⟩ := aPA h h0
   exact .inr ⟨b, off, xG es, h1, h2, kJ.2 rfl, h3⟩
theorem aK3 {A : Option Addr} {n c : Nat} {es : List Edt} (hc : n ≤ c ∧ c ≤ maxLen) (h : Rd w 3 A n (yD es)) : RV (InW w) w hp B V (.lst 3 (es.map xg)) (.slice A n c) := by
 have hl := h.elen
 unfold RV; unfold RA
 refine ⟨A, c, by rw [List.length_map, hl], by rw [List.length_map, hl]; exact hc.1, hc.2, aD6 _, by omega, ?_⟩
 rcases Nat.eq_zero_or_pos n with h0 | h0
 · exact .inl (by rw [List.map_eq_nil_iff]; exact List.eq_nil_of_length_eq_zero (by omega))
 · obtain ⟨b, off, h1, h2, h3⟩ := aPA h h0
   exact .inr ⟨b, off, yD es, h1, h2, aAT.2 rfl, h3⟩
theorem rvs_nil : RVs (InW w) w hp B V [] [] := by unfold RVs; rfl
theorem rvs_cons {x : AV} {xs : List AV} {u : Value} {us : List Value} (h : RV (InW w) w hp B V x u) (r : RVs (InW w) w hp B V xs us) : RVs (InW w) w hp B V (x :: xs) (u :: us) := by
 unfold RVs; exact ⟨u, us, rfl, h, r⟩
theorem law_calls {P : Program} {f : FuncId} {args : List AV} {vs : List Value} {r : Value} (h : AC P f args ⟨.v r, []⟩) (hv : RVs (InW w) w (fun _ => none) (fun _ => 0) (fun _ => undef) args vs) (hG : ∀ g y, GT g = some y → RA (InW w) w (.ptr y) [.pointer (some ⟨g, 0, none⟩)] := by intro g y e; cases e) : Calls P f vs.toArray w fun e w' => e = .returned r ∧ Below w.heap.size w w' :=
 (h.2 w (InW w) (fun _ => 0) (fun _ => undef) (fun _ => Fa) vs (fun b hb => hb) hG (aBi (fun _ => rfl)) (aE7 (fun _ => rfl) hv)).mono fun e w' ⟨v, S, B, V, T, T1, h1, h2, _, _, h5, _⟩ => by
  unfold RV at h5
  exact ⟨by rw [h1, h5.1], h2.below (fun g ⟨l, ob, e, _⟩ => by cases e)⟩
end
end Go.Proofs.YtkfllfhcjegfoaaGreatDoor.AM
namespace Go.Proofs.YtkfllfhcjegfoaaGreatDoor.AM
open Go Go.RowKit
attribute [local irreducible] xM xN xW yF yL Pre ACG
def wF (N : Nat) (cs : List Cmt) : Prop := ∀ c ∈ cs, c.1.length ≤ N ∧ c.2.length ≤ N ∧ ∀ e ∈ c.2, e.1.size ≤ N
theorem wF.le {N M : Nat} {cs : List Cmt} (h : wF N cs) (k : N ≤ M) : wF M cs := fun c hc => ⟨Nat.le_trans (h c hc).1 k, Nat.le_trans (h c hc).2.1 k, fun e he => Nat.le_trans ((h c hc).2.2 e he) k⟩
end Go.Proofs.YtkfllfhcjegfoaaGreatDoor.AM
namespace Go.Proofs.YtkfllfhcjegfoaaGreatDoor.AM
open Go Go.RowKit Go.ChangeShapes Go.WideShapes Go.Deep
def aA8 : List (Value × Value) → List Value
 | [] => []
 | p :: l => p.1 :: p.2 :: aA8 l
theorem aGv : ∀ (l : List (Value × Value)) (j : Nat) (u : Value), (aA8 l)[j]? = some u → ∃ i, ∃ hi : i < l.length, (j = i * 2 ∧ u = l[i].1) ∨ (j = i * 2 + 1 ∧ u = l[i].2)
 | [], j, u, h => by simp [aA8] at h
 | p :: l, 0, u, h => by simp [aA8] at h; exact ⟨0, by simp, .inl ⟨rfl, h.symm⟩⟩
 | p :: l, 1, u, h => by simp [aA8] at h; exact ⟨0, by simp, .inr ⟨rfl, h.symm⟩⟩
 | p :: l, j + 2, u, h => by
  simp only [aA8, List.getElem?_cons_succ] at h
  obtain ⟨i, hi, h⟩ := aGv l j u h
  refine ⟨i + 1, by simpa using hi, ?_⟩
  simp only [List.getElem_cons_succ]
  rcases h with ⟨h1, h2⟩ | ⟨h1, h2⟩
  · exact .inl ⟨by omega, h2⟩
  · exact .inr ⟨by omega, h2⟩
section
variable {S : Nat → Prop} {w : World}
theorem aKA : ∀ (l : List Int), RL S w (l.map zx) (l.map fun x => .int .i64 x)
 | [] => by simp only [List.map_nil]; exact uL
 | x :: l => by simp only [List.map_cons]; exact xO (c1 := [_]) (zR rfl) (aKA l)
theorem aKW : ∀ (l : List (Cmt × Value × Value)), (∀ p ∈ l, RA S w (.lst 1 (p.1.1.map zx)) [p.2.1] ∧ RA S w (.lst 2 (p.1.2.map xP)) [p.2.2]) → RL S w ((l.map (·.1)).map yI) (aA8 (l.map (·.2)))
 | [], _ => by simp only [List.map_nil]; exact uL
 | p :: l, h => by
  simp only [List.map_cons, aA8]
  obtain ⟨h1, h2⟩ := h p (by simp)
  exact xO (c1 := [_, _]) (ra_agg (xO (c1 := [_]) h1 (xO (c1 := [_]) h2 uL))) (aKW l (fun q hq => h q (List.mem_cons_of_mem _ hq)))
end
section
variable {H : Type} {enc : TypeId × Value → H} {P : Program} {w : World} {base : Nat} {held : Bool}
theorem wP {t e : TypeId} {v : Value} {k : Nat} {y : DataW H × List MemPlace} (ht : P.underlying t = some (.slice e)) (h : DataW.trod enc P w base (fun _ => true) held k t [v] = some y) : ∃ A n c, v = .slice A n c := by
 rcases open_slice ht h with ⟨hcs, _⟩ | ⟨a, len, cap, m, n, D, Pl, hcs, _⟩
 · simp at hcs; exact ⟨_, _, _, hcs⟩
 · simp at hcs; exact ⟨_, _, _, hcs⟩
theorem open_ints {t e : TypeId} {v : Value} {k : Nat} {y : DataW H × List MemPlace} (ht : P.underlying t = some (.slice e)) (he : P.underlying e = some (.int .i64)) (hC : P.cellsOf e = 1) (h : DataW.trod enc P w base (fun _ => true) held k t [v] = some y) :
 ∃ l : List Int, RA (InW w) w (.lst 1 (l.map zx)) [v] ∧ l.length ≤ maxLen := by
 rcases open_slice ht h with ⟨hcs, _⟩ | ⟨a, len, cap, m, n, D, Pl, hcs, hb, hl, hm, hmm, hx, hi⟩
 · exact ⟨[], by rw [hcs]; exact aH6 (by omega), Nat.zero_le _⟩
 · rw [hcs]
   simp at hmm
   subst hmm
   rcases Nat.eq_zero_or_pos len with h0 | hpos
   · subst h0
     refine ⟨[], ?_, Nat.zero_le _⟩
     simp only [List.map_nil]
     unfold RA
     exact ⟨_, _, rfl, Nat.zero_le _, hm, by simp, by omega, .inl rfl⟩
   have hall : ∀ i, i < len → ∃ x : Int, w.cell? (a.add i) = some (.int .i64 x) := fun i hil => by
    obtain ⟨cs', hc, ht'⟩ := hi i (by omega)
    rw [hC, Nat.mul_one] at hc
    obtain ⟨_, hcl, hat⟩ := World.cells?_some hc
    obtain ⟨x, hx, _⟩ := DataW.trod_int he ht'
    subst hx
    have := hat 0 (by omega)
    rw [kX] at this
    exact ⟨x, this⟩
   obtain ⟨x0, hx0⟩ := hall 0 hpos
   rw [kX] at hx0
   have hsp := qZ hx0
   obtain ⟨b, off, sp⟩ := a
   simp at hsp
   subst hsp
   have hadd : ∀ j, (⟨b, off, none⟩ : Addr).add j = ⟨b, off + j, none⟩ := fun j => by unfold Addr.add; split <;> simp_all
   obtain ⟨l, hll, hq⟩ := jy (α := Int) len (fun i x => w.cell? ⟨b, off + i, none⟩ = some (.int .i64 x)) (fun i hil => by
    obtain ⟨x, hx⟩ := hall i hil
    rw [hadd] at hx; exact ⟨x, hx⟩)
   refine ⟨l, ?_, by omega⟩
   unfold RA
   refine ⟨_, _, by rw [List.length_map, hll], by rw [List.length_map]; omega, hm, aPq l, by omega, .inr ⟨b, off, _, rfl, World.block_lt_of_cell? w _ hx0, aKA l, fun j u hu => ?_⟩⟩
   rw [List.getElem?_map] at hu
   obtain ⟨x, hx, rfl⟩ := Option.map_eq_some_iff.1 hu
   obtain ⟨hj, hx⟩ := List.getElem?_eq_some_iff.1 hx
   rw [← hx]; exact hq j hj
theorem aM8 {t e te : TypeId} {f0 f1 g0 g1 : Field} {e0 : TypeId} {A : Option Addr} {n c : Nat} {d : DataW H} {p : List MemPlace} (ht : P.underlying t = some (.slice e)) (he : P.underlying e = some (.struct #[f0, f1]))
 (hone : oneCellFields P #[f0, f1] = true) (hC : P.cellsOf e = 2) (h0 : P.underlying f0.type = some (.slice e0)) (hi0 : P.underlying e0 = some (.int .i64)) (hC0 : P.cellsOf e0 = 1)
 (h1 : P.underlying f1.type = some (.slice te)) (h2 : P.underlying te = some (.struct #[g0, g1])) (hone1 : oneCellFields P #[g0, g1] = true) (hC1 : P.cellsOf te = 2) (k0 : P.underlying g0.type = some .string) (k1 : P.underlying g1.type = some (.int .i64)) (h : DataW.Trod enc P w base (fun _ => true) held t (.slice A n c) d p) :
 ∃ cs : List Cmt, (∀ hp B V, RV (InW w) w hp B V (.lst 2 (cs.map yI)) (.slice A n c)) ∧ cs.length ≤ maxLen ∧ wF maxLen cs := by
 have hcap := kr ht h
 obtain ⟨hn, hf⟩ := j5 ht he hone hC (by simp) h
 rcases Nat.eq_zero_or_pos n with h | hpos
 · subst h
   refine ⟨[], fun hp B V => ?_, Nat.zero_le _, fun c hc => by cases hc⟩
   simp only [List.map_nil]
   unfold RV RA
   exact ⟨_, _, rfl, Nat.zero_le _, hcap.2, by simp, by omega, .inl rfl⟩
 obtain ⟨b, off, rfl, hlt, hi⟩ := hf hpos
 obtain ⟨l, hl, hq⟩ := jy (α := Cmt × Value × Value) n (fun i x => w.cell? ⟨b, off + (i * 2 + 0), none⟩ = some x.2.1 ∧ w.cell? ⟨b, off + (i * 2 + 1), none⟩ = some x.2.2 ∧ RA (InW w) w (.lst 1 (x.1.1.map zx)) [x.2.1] ∧ RA (InW w) w (.lst 2 (x.1.2.map xP)) [x.2.2] ∧ x.1.1.length ≤ maxLen ∧ x.1.2.length ≤ maxLen ∧ ∀ e ∈ x.1.2, e.1.size ≤ maxLen) (fun i hin => by
  obtain ⟨k, hk⟩ := hi i hin
  obtain ⟨v0, y0, c0, t0⟩ := hk 0 f0 rfl
  obtain ⟨v1, y1, c1, t1⟩ := hk 1 f1 rfl
  obtain ⟨ps, hps, hpl⟩ := open_ints h0 hi0 hC0 t0
  obtain ⟨A1, n1, c1', rfl⟩ := wP h1 t1
  have T1 : DataW.Trod enc P w base (fun _ => true) held f1.type (.slice A1 n1 c1') y1.1 y1.2 := ⟨k, by simpa [Value.cells] using t1⟩
  obtain ⟨es, hrd, hm, hks⟩ := aDK h1 h2 hone1 hC1 k0 k1 T1
  have := aFp (hp := fun _ => none) (B := fun _ => 0) (V := fun _ => undef) (kr h1 T1) hrd
  unfold RV at this
  exact ⟨((ps, es), v0, _), c0, c1, hps, this, hpl, Nat.le_trans (Nat.le_of_eq hrd.len) hm, hks⟩)
 refine ⟨l.map (·.1), fun hp B V => ?_, by rw [List.length_map]; omega, fun c hc => ?_⟩
 · unfold RV RA
   refine ⟨_, c, by rw [List.length_map, List.length_map, hl], by rw [List.length_map, List.length_map]; omega, hcap.2, aP6 _, by omega, .inr ⟨b, off, _, rfl, hlt, aKW l (fun p hp => by
    obtain ⟨i, hi', rfl⟩ := List.getElem_of_mem hp
    exact ⟨(hq i hi').2.2.1, (hq i hi').2.2.2.1⟩), fun j u hu => ?_⟩⟩
   obtain ⟨i, hi', h⟩ := aGv _ j u hu
   rw [List.length_map] at hi'
   obtain ⟨q1, q2, _⟩ := hq i hi'
   rcases h with ⟨rfl, rfl⟩ | ⟨rfl, rfl⟩
   · simpa using q1
   · simpa using q2
 · obtain ⟨x, hx, rfl⟩ := List.mem_map.1 hc
   obtain ⟨i, hi', rfl⟩ := List.getElem_of_mem hx
   exact (hq i hi').2.2.2.2
end
end Go.Proofs.YtkfllfhcjegfoaaGreatDoor.AM
namespace Go.Proofs.YtkfllfhcjegfoaaGreatDoor
open Go.RowKit
theorem aEu : Tryz.prog.stoodInHeld 167 = false := by kernel_rfl
theorem aEK : Tryz.prog.eqGuardType Tryz.prog.depth 167 = false := by kernel_rfl
set_option maxHeartbeats 1000000 in
set_option maxRecDepth 100000 in
theorem aJZ (A : Option Addr) (n c : Nat) (es : List Ent) (A' : Option Addr) (n' c' : Nat) (es' : List Ent) (w : World) (hr : Rd w 2 A n (xG es)) (hr' : Rd w 2 A' n' (xG es')) (hm : n ≤ maxLen) (hm' : n' ≤ maxLen) :
 Calls Tryz.prog 98 #[.slice A n c, .slice A' n' c'] w fun e w' => e = .returned (.bool (decide (es = es'))) ∧ Below w.heap.size w w' := by
 unfold maxLen at hm hm'
 have hlen := hr.len
 have hlen' := hr'.len
 have Hlen := Lib.hid hlen; clear hlen
 have Hlen' := Lib.hid hlen'; clear hlen'
 by_cases hne : n = n'
 case neg =>
  have hfin : Hid (decide (es = es') = false) := decide_eq_false (fun h => hne (by rw [← Hlen.out, ← Hlen'.out, h]))
  have hb : ((n : Int) != n') = true := by rw [bne_iff_ne]; omega
  go_enter Tryz.func98, Tryz.ntmps98
  go_wp2
  go_ret
  exact ⟨xQ hfin.out.symm, Below.refl _ _⟩
 subst hne
 go_enter Tryz.func98, Tryz.ntmps98
 go_wp2
 go_loopw [5] (fun i wr => ∃ k : Nat, k ≤ n ∧ i = .int .i64 k ∧ es.take k = es'.take k ∧ Below w.heap.size w wr) (fun i _ => n - (intOf i).toNat)
 case atStart => exact ⟨0, Nat.zero_le _, rfl, rfl, Below.refl _ _⟩
 case round =>
  obtain ⟨k, hk, rfl, heq, hb⟩ := hrel
  have Heq := Lib.hid heq; clear heq
  by_cases hlt : k < n
  · have hke : k < es.length := by rw [Hlen.out]; exact hlt
    have hke' : k < es'.length := by rw [Hlen'.out]; exact hlt
    obtain ⟨b, off, rfl, hbl, hbl2, hc1, hc2⟩ := hr.ent hb hke
    obtain ⟨b', off', rfl, hbl', hbl2', hc1', hc2'⟩ := hr'.ent hb hke'
    have hA0 := fun y : Aft wr => y.cell hbl2 hc1
    have hA1 := fun y : Aft wr => y.cell hbl2 hc2
    have hA2 := fun y : Aft wr => y.cell hbl2' hc1'
    have hA3 := fun y : Aft wr => y.cell hbl2' hc2'
    have hyes : Hid (es[k] = es'[k] → es.take (k + 1) = es'.take (k + 1)) := by
     intro h'
     rw [List.take_succ_eq_append_getElem hke, List.take_succ_eq_append_getElem hke', Heq.out, h']
    have hno : Hid (es[k] ≠ es'[k] → decide (es = es') = false) := by
     intro h
     refine decide_eq_false (fun e => ?_)
     subst e
     exact h rfl
    generalize es[k] = ek at *
    generalize es'[k] = ek' at *
    obtain ⟨k1, v1⟩ := ek
    obtain ⟨k2, v2⟩ := ek'
    have hsh := aEu
    have hsg := aEK
    by_cases hkk : k1 = k2
    · subst hkk
      by_cases hvv : v1 = v2
      · subst hvv
        have hyes' := Lib.hid (hyes.out rfl)
        clear hyes hno
        go_wp2
        refine xD (by kernel_rfl) (by kernel_rfl) ?_
        repeat (go_big_quiet_step (fail))
        refine wpQuiet_nil ?_
        rintro _ ⟨y, rfl⟩
        have hb3 := yH hb y.below
        generalize y.at_ = w3 at *
        go_wp2
        go_roundw
        case rel => exact ⟨k + 1, by omega, by go_num, hyes'.out, hb3⟩
        case measure => simp [intOf]; omega
      · have hno' := Lib.hid (hno.out (fun h => hvv (by cases h; rfl)))
        clear hyes hno
        go_wp2
        refine xD (by kernel_rfl) (by kernel_rfl) ?_
        repeat (go_big_quiet_step (fail))
        refine wpQuiet_nil ?_
        rintro _ ⟨y, rfl⟩
        have hb3 := yH hb y.below
        generalize y.at_ = w3 at *
        go_wp2
        go_ret
        exact ⟨xQ hno'.out.symm, hb3⟩
    · have hno' := Lib.hid (hno.out (fun h => hkk (by cases h; rfl)))
      have hkl : ¬ k1.toList = k2.toList := fun h => hkk (toList_inj h)
      clear hyes hno
      go_wp2
      refine xD (by kernel_rfl) (by kernel_rfl) ?_
      repeat (go_big_quiet_step (fail))
      refine wpQuiet_nil ?_
      rintro _ ⟨y, rfl⟩
      have hb3 := yH hb y.below
      generalize y.at_ = w3 at *
      go_wp2
      go_ret
      exact ⟨xQ hno'.out.symm, hb3⟩
  · have hfin : Hid (decide (es = es') = true) := by
     have h := Heq.out
     rw [List.take_of_length_le (by rw [Hlen.out]; omega), List.take_of_length_le (by rw [Hlen'.out]; omega)] at h
     exact decide_eq_true h
    go_wp2
    go_ret
    exact ⟨xQ hfin.out.symm, hb⟩
set_option maxHeartbeats 1000000 in
set_option maxRecDepth 100000 in
theorem aF8 (A : Option Addr) (n c : Nat) (es : List Ent) (A' : Option Addr) (n' c' : Nat) (es' : List Ent) (w : World) (hr : Rd w 2 A n (xG es)) (hr' : Rd w 2 A' n' (xG es')) (hm : n ≤ maxLen) (hm' : n' ≤ maxLen) :
 Calls Tryz.prog 157 #[.slice A n c, .slice A' n' c'] w fun e w' => e = .returned (.bool (decide (es = es'))) ∧ Below w.heap.size w w' := by
 unfold maxLen at hm hm'
 have hlen := hr.len
 have hlen' := hr'.len
 have Hlen := Lib.hid hlen; clear hlen
 have Hlen' := Lib.hid hlen'; clear hlen'
 by_cases hne : n = n'
 case neg =>
  have hfin : Hid (decide (es = es') = false) := decide_eq_false (fun h => hne (by rw [← Hlen.out, ← Hlen'.out, h]))
  have hb : ((n : Int) != n') = true := by rw [bne_iff_ne]; omega
  go_enter Tryz.func157, Tryz.ntmps157
  go_wp2
  go_ret
  exact ⟨xQ hfin.out.symm, Below.refl _ _⟩
 subst hne
 go_enter Tryz.func157, Tryz.ntmps157
 go_wp2
 go_loopw [5, 13] (fun _ i wr => ∃ k : Nat, k ≤ n ∧ i = .int .i64 k ∧ es.take k = es'.take k ∧ Below w.heap.size w wr) (fun _ i _ => n - (intOf i).toNat)
 case atStart => exact ⟨0, Nat.zero_le _, rfl, rfl, Below.refl _ _⟩
 case round =>
  obtain ⟨k, hk, rfl, heq, hb⟩ := hrel
  have Heq := Lib.hid heq; clear heq
  by_cases hlt : k < n
  · have hke : k < es.length := by rw [Hlen.out]; exact hlt
    have hke' : k < es'.length := by rw [Hlen'.out]; exact hlt
    obtain ⟨b, off, rfl, hbl, hbl2, hc1, hc2⟩ := hr.ent hb hke
    obtain ⟨b', off', rfl, hbl', hbl2', hc1', hc2'⟩ := hr'.ent hb hke'
    have hA0 := fun y : Aft wr => y.cell hbl2 hc1
    have hA1 := fun y : Aft wr => y.cell hbl2 hc2
    have hA2 := fun y : Aft wr => y.cell hbl2' hc1'
    have hA3 := fun y : Aft wr => y.cell hbl2' hc2'
    have hyes : Hid (es[k] = es'[k] → es.take (k + 1) = es'.take (k + 1)) := by
     intro h'
     rw [List.take_succ_eq_append_getElem hke, List.take_succ_eq_append_getElem hke', Heq.out, h']
    have hno : Hid (es[k] ≠ es'[k] → decide (es = es') = false) := by
     intro h
     refine decide_eq_false (fun e => ?_)
     subst e
     exact h rfl
    generalize es[k] = ek at *
    generalize es'[k] = ek' at *
    obtain ⟨k1, v1⟩ := ek
    obtain ⟨k2, v2⟩ := ek'
    have hsh := aEu
    have hsg := aEK
    by_cases hkk : k1 = k2
    · subst hkk
      by_cases hvv : v1 = v2
      · subst hvv
        have hyes' := Lib.hid (hyes.out rfl)
        clear hyes hno
        go_wp2
        refine xD (by kernel_rfl) (by kernel_rfl) ?_
        repeat (go_big_quiet_step (fail))
        refine wpQuiet_nil ?_
        rintro _ ⟨y, rfl⟩
        have hb3 := yH hb y.below
        generalize y.at_ = w3 at *
        go_wp2
        go_roundw
        case rel => exact ⟨k + 1, by omega, by go_num, hyes'.out, hb3⟩
        case measure => simp [intOf]; omega
      · have hno' := Lib.hid (hno.out (fun h => hvv (by cases h; rfl)))
        clear hyes hno
        go_wp2
        refine xD (by kernel_rfl) (by kernel_rfl) ?_
        repeat (go_big_quiet_step (fail))
        refine wpQuiet_nil ?_
        rintro _ ⟨y, rfl⟩
        have hb3 := yH hb y.below
        generalize y.at_ = w3 at *
        go_wp2
        go_ret
        exact ⟨xQ hno'.out.symm, hb3⟩
    · have hno' := Lib.hid (hno.out (fun h => hkk (by cases h; rfl)))
      have hkl : ¬ k1.toList = k2.toList := fun h => hkk (toList_inj h)
      clear hyes hno
      go_wp2
      refine xD (by kernel_rfl) (by kernel_rfl) ?_
      repeat (go_big_quiet_step (fail))
      refine wpQuiet_nil ?_
      rintro _ ⟨y, rfl⟩
      have hb3 := yH hb y.below
      generalize y.at_ = w3 at *
      go_wp2
      go_ret
      exact ⟨xQ hno'.out.symm, hb3⟩
  · have hfin : Hid (decide (es = es') = true) := by
     have h := Heq.out
     rw [List.take_of_length_le (by rw [Hlen.out]; omega), List.take_of_length_le (by rw [Hlen'.out]; omega)] at h
     exact decide_eq_true h
    go_wp2
    go_ret
    exact ⟨xQ hfin.out.symm, hb⟩
end Go.Proofs.YtkfllfhcjegfoaaGreatDoor
namespace Go.Proofs.YtkfllfhcjegfoaaGreatDoor.AM
open Go Go.RowKit
attribute [local irreducible] xM xN xW yF yL Pre ACG
theorem aQV : ∀ vs w, (callFunc 98 vs).run Tryz.prog w = .ok (.enter 98 vs) w := uH Tryz.func98 (by kernel_rfl) (by kernel_rfl)
theorem aP8 : ∀ vs w, (callFunc 157 vs).run Tryz.prog w = .ok (.enter 157 vs) w := uH Tryz.func157 (by kernel_rfl) (by kernel_rfl)
theorem aEb {es es' : List Ent} (hm : es.length ≤ maxLen) (hm' : es'.length ≤ maxLen) : AC Tryz.prog 98 [.lst 2 (es.map xP), .lst 2 (es'.map xP)] ⟨.v (.bool (decide (es = es'))), []⟩ :=
 kV aQV rfl fun w S0 vs hS hv => by
  obtain ⟨u, us, rfl, h1, hv⟩ := aAK hv
  obtain ⟨u', rfl, h2⟩ := wL hv
  obtain ⟨A, c, rfl, _, _, hr⟩ := zb hS h1
  obtain ⟨A', c', rfl, _, _, hr'⟩ := zb hS h2
  exact aJZ A _ c es A' _ c' es' w hr hr' hm hm'
theorem aCa {es es' : List Ent} (hm : es.length ≤ maxLen) (hm' : es'.length ≤ maxLen) : AC Tryz.prog 157 [.lst 2 (es.map xP), .lst 2 (es'.map xP)] ⟨.v (.bool (decide (es = es'))), []⟩ :=
 kV aP8 rfl fun w S0 vs hS hv => by
  obtain ⟨u, us, rfl, h1, hv⟩ := aAK hv
  obtain ⟨u', rfl, h2⟩ := wL hv
  obtain ⟨A, c, rfl, _, _, hr⟩ := zb hS h1
  obtain ⟨A', c', rfl, _, _, hr'⟩ := zb hS h2
  exact aF8 A _ c es A' _ c' es' w hr hr' hm hm'
theorem aQ2 {α : Type} {a b : List α} (h : a.length = b.length) (he : ∀ i, i < a.length → ∃ (h1 : i < a.length) (h2 : i < b.length), a[i] = b[i]) : a = b :=
 List.ext_getElem h fun i h1 h2 => (he i h1).2.2
def Agree {α : Type} (a b : List α) (k : Nat) : Prop := ∀ i, i < k → ∃ (h1 : i < a.length) (h2 : i < b.length), a[i] = b[i]
theorem Agree.snoc {α : Type} {a b : List α} {k : Nat} (h : Agree a b k) (h1 : k < a.length) (h2 : k < b.length) (he : a[k] = b[k]) : Agree a b (k + 1) := fun i hi => by
 rcases Nat.lt_or_ge i k with h' | h'
 · exact h i h'
 · have : i = k := by omega
   subst this; exact ⟨h1, h2, he⟩
theorem aGZ {cs : List Cmt} {l : Int} (h : 0 ≤ kL cs l) (h1 : l ≤ 1048576) : kL cs l ≤ l ∧ cs.length ≤ 1048576 ∧ wF 1048576 cs := by
 obtain ⟨k1, k2⟩ := aPh h
 refine ⟨?_, by omega, fun c hc => by obtain ⟨q1, q2, q3⟩ := k2 c hc; exact ⟨by omega, by omega, fun e he => by have := q3 e he; omega⟩⟩
 unfold kL at h ⊢
 split
 · omega
 · rename_i hn
   rw [if_neg hn] at h
   have := (aIs h).1
   omega
end Go.Proofs.YtkfllfhcjegfoaaGreatDoor.AM
