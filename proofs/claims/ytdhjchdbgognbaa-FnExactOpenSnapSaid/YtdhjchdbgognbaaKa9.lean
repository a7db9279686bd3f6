/- Texts of the machine over data, folded. -/
import Derived.Test.YtdhjchdbgognbaaKa8
import Derived.Test.YtdhjchdbgognbaaKa5
import Derived.Test.YtdhjchdbgognbaaKa6
import Derived.Laws.StructEq
set_option linter.unusedVariables false
set_option linter.unusedSimpArgs false
set_option maxRecDepth 100000
namespace Go.Proofs.Ytdhjchdbgognbaa.AM
open Go Go.RowKit
attribute [local irreducible] xO xU yD zA zJ Pre ACG
def y5 (N : Nat) (cs : List Cmt) : Prop := ∀ c ∈ cs, c.1.length ≤ N ∧ c.2.length ≤ N ∧ ∀ e ∈ c.2, e.1.size ≤ N
theorem y5.le {N M : Nat} {cs : List Cmt} (h : y5 N cs) (k : N ≤ M) : y5 M cs := fun c hc => ⟨Nat.le_trans (h c hc).1 k, Nat.le_trans (h c hc).2.1 k, fun e he => Nat.le_trans ((h c hc).2.2 e he) k⟩
end Go.Proofs.Ytdhjchdbgognbaa.AM
namespace Go.Proofs.Ytdhjchdbgognbaa.AM
open Go Go.RowKit Go.ChangeShapes Go.WideShapes Go.Deep
def kS : List (Value × Value) → List Value
 | [] => []
 | p :: l => p.1 :: p.2 :: kS l
theorem aD2 : ∀ (l : List (Value × Value)) (j : Nat) (u : Value), (kS l)[j]? = some u → ∃ i, ∃ hi : i < l.length, (j = i * 2 ∧ u = l[i].1) ∨ (j = i * 2 + 1 ∧ u = l[i].2)
 | [], j, u, h => by simp [kS] at h
 | p :: l, 0, u, h => by simp [kS] at h; exact ⟨0, by simp, .inl ⟨rfl, h.symm⟩⟩
 | p :: l, 1, u, h => by simp [kS] at h; exact ⟨0, by simp, .inr ⟨rfl, h.symm⟩⟩
 | p :: l, j + 2, u, h => by
  simp only [kS, List.getElem?_cons_succ] at h
  obtain ⟨i, hi, h⟩ := aD2 l j u h
  refine ⟨i + 1, by simpa using hi, ?_⟩
  simp only [List.getElem_cons_succ]
  rcases h with ⟨h1, h2⟩ | ⟨h1, h2⟩
  · exact .inl ⟨by omega, h2⟩
  · exact .inr ⟨by omega, h2⟩
section
variable {S : Nat → Prop} {w : World}
theorem aGI : ∀ (l : List Int), RL S w (l.map yC) (l.map fun x => .int .i64 x)
 | [] => by simp only [List.map_nil]; exact wX
 | x :: l => by simp only [List.map_cons]; exact yx (c1 := [_]) (kZ rfl) (aGI l)
theorem aGH : ∀ (l : List (Cmt × Value × Value)), (∀ p ∈ l, RA S w (.lst 1 (p.1.1.map yC)) [p.2.1] ∧ RA S w (.lst 2 (p.1.2.map xD)) [p.2.2]) → RL S w ((l.map (·.1)).map xL) (kS (l.map (·.2)))
 | [], _ => by simp only [List.map_nil]; exact wX
 | p :: l, h => by
  simp only [List.map_cons, kS]
  obtain ⟨h1, h2⟩ := h p (by simp)
  exact yx (c1 := [_, _]) (aCX (yx (c1 := [_]) h1 (yx (c1 := [_]) h2 wX))) (aGH l (fun q hq => h q (List.mem_cons_of_mem _ hq)))
end
section
variable {H : Type} {enc : TypeId × Value → H} {P : Program} {w : World} {base : Nat} {held : Bool}
theorem aAc {t e : TypeId} {v : Value} {k : Nat} {y : DataW H × List MemPlace} (ht : P.underlying t = some (.slice e)) (h : DataW.trod enc P w base (fun _ => true) held k t [v] = some y) : ∃ A n c, v = .slice A n c := by
 rcases open_slice ht h with ⟨hcs, _⟩ | ⟨a, len, cap, m, n, D, Pl, hcs, _⟩
 · simp at hcs; exact ⟨_, _, _, hcs⟩
 · simp at hcs; exact ⟨_, _, _, hcs⟩
theorem open_ints {t e : TypeId} {v : Value} {k : Nat} {y : DataW H × List MemPlace} (ht : P.underlying t = some (.slice e)) (he : P.underlying e = some (.int .i64)) (hC : P.cellsOf e = 1) (h : DataW.trod enc P w base (fun _ => true) held k t [v] = some y) :
 ∃ l : List Int, RA (InW w) w (.lst 1 (l.map yC)) [v] ∧ l.length ≤ maxLen := by
 rcases open_slice ht h with ⟨hcs, _⟩ | ⟨a, len, cap, m, n, D, Pl, hcs, hb, hl, hm, hmm, hx, hi⟩
 · exact ⟨[], by rw [hcs]; exact aK0 (by omega), Nat.zero_le _⟩
 · rw [hcs]
   simp at hmm
   subst hmm
   rcases Nat.eq_zero_or_pos len with h0 | hpos
   · subst h0
     refine ⟨[], ?_, Nat.zero_le _⟩
     simp only [List.map_nil]
     unfold RA
     exact ⟨_, _, rfl, Nat.zero_le _, hm, by simp, by omega, .inl rfl⟩
   have hall : ∀ i, i < len → ∃ x : Int, w.cell? (a.add i) = some (.int .i64 x) := fun i hil => by
    obtain ⟨cs', hc, ht'⟩ := hi i (by omega)
    rw [hC, Nat.mul_one] at hc
    obtain ⟨_, hcl, hat⟩ := World.cells?_some hc
    obtain ⟨x, hx, _⟩ := DataW.trod_int he ht'
    subst hx
    have := hat 0 (by omega)
    rw [aAX] at this
    exact ⟨x, this⟩
   obtain ⟨x0, hx0⟩ := hall 0 hpos
   rw [aAX] at hx0
   have hsp := aAi hx0
   obtain ⟨b, off, sp⟩ := a
   simp at hsp
   subst hsp
   have hadd : ∀ j, (⟨b, off, none⟩ : Addr).add j = ⟨b, off + j, none⟩ := fun j => by unfold Addr.add; split <;> simp_all
   obtain ⟨l, hll, hq⟩ := aAw (α := Int) len (fun i x => w.cell? ⟨b, off + i, none⟩ = some (.int .i64 x)) (fun i hil => by
    obtain ⟨x, hx⟩ := hall i hil
    rw [hadd] at hx; exact ⟨x, hx⟩)
   refine ⟨l, ?_, by omega⟩
   unfold RA
   refine ⟨_, _, by rw [List.length_map, hll], by rw [List.length_map]; omega, hm, aJI l, by omega, .inr ⟨b, off, _, rfl, World.block_lt_of_cell? w _ hx0, aGI l, fun j u hu => ?_⟩⟩
   rw [List.getElem?_map] at hu
   obtain ⟨x, hx, rfl⟩ := Option.map_eq_some_iff.1 hu
   obtain ⟨hj, hx⟩ := List.getElem?_eq_some_iff.1 hx
   rw [← hx]; exact hq j hj
theorem aHh {t e te : TypeId} {f0 f1 g0 g1 : Field} {e0 : TypeId} {A : Option Addr} {n c : Nat} {d : DataW H} {p : List MemPlace} (ht : P.underlying t = some (.slice e)) (he : P.underlying e = some (.struct #[f0, f1]))
 (hone : oneCellFields P #[f0, f1] = true) (hC : P.cellsOf e = 2) (h0 : P.underlying f0.type = some (.slice e0)) (hi0 : P.underlying e0 = some (.int .i64)) (hC0 : P.cellsOf e0 = 1)
 (h1 : P.underlying f1.type = some (.slice te)) (h2 : P.underlying te = some (.struct #[g0, g1])) (hone1 : oneCellFields P #[g0, g1] = true) (hC1 : P.cellsOf te = 2) (k0 : P.underlying g0.type = some .string) (k1 : P.underlying g1.type = some (.int .i64)) (h : DataW.Trod enc P w base (fun _ => true) held t (.slice A n c) d p) :
 ∃ cs : List Cmt, (∀ hp B V, RV (InW w) w hp B V (.lst 2 (cs.map xL)) (.slice A n c)) ∧ cs.length ≤ maxLen ∧ y5 maxLen cs := by
 have hcap := aBe ht h
 obtain ⟨hn, hf⟩ := qE ht he hone hC (by simp) h
 rcases Nat.eq_zero_or_pos n with h | hpos
 · subst h
   refine ⟨[], fun hp B V => ?_, Nat.zero_le _, fun c hc => by cases hc⟩
   simp only [List.map_nil]
   unfold RV RA
   exact ⟨_, _, rfl, Nat.zero_le _, hcap.2, by simp, by omega, .inl rfl⟩
 obtain ⟨b, off, rfl, hlt, hi⟩ := hf hpos
 obtain ⟨l, hl, hq⟩ := aAw (α := Cmt × Value × Value) n (fun i x => w.cell? ⟨b, off + (i * 2 + 0), none⟩ = some x.2.1 ∧ w.cell? ⟨b, off + (i * 2 + 1), none⟩ = some x.2.2 ∧ RA (InW w) w (.lst 1 (x.1.1.map yC)) [x.2.1] ∧ RA (InW w) w (.lst 2 (x.1.2.map xD)) [x.2.2] ∧ x.1.1.length ≤ maxLen ∧ x.1.2.length ≤ maxLen ∧ ∀ e ∈ x.1.2, e.1.size ≤ maxLen) (fun i hin => by
  obtain ⟨k, hk⟩ := hi i hin
  obtain ⟨v0, y0, c0, t0⟩ := hk 0 f0 rfl
  obtain ⟨v1, y1, c1, t1⟩ := hk 1 f1 rfl
  obtain ⟨ps, hps, hpl⟩ := open_ints h0 hi0 hC0 t0
  obtain ⟨A1, n1, c1', rfl⟩ := aAc h1 t1
  have T1 : DataW.Trod enc P w base (fun _ => true) held f1.type (.slice A1 n1 c1') y1.1 y1.2 := ⟨k, by simpa [Value.cells] using t1⟩
  obtain ⟨es, hrd, hm, hks⟩ := aHi h1 h2 hone1 hC1 k0 k1 T1
  have := aJ7 (hp := fun _ => none) (B := fun _ => 0) (V := fun _ => undef) (aBe h1 T1) hrd
  unfold RV at this
  exact ⟨((ps, es), v0, _), c0, c1, hps, this, hpl, Nat.le_trans (Nat.le_of_eq hrd.len) hm, hks⟩)
 refine ⟨l.map (·.1), fun hp B V => ?_, by rw [List.length_map]; omega, fun c hc => ?_⟩
 · unfold RV RA
   refine ⟨_, c, by rw [List.length_map, List.length_map, hl], by rw [List.length_map, List.length_map]; omega, hcap.2, aJH _, by omega, .inr ⟨b, off, _, rfl, hlt, aGH l (fun p hp => by
    obtain ⟨i, hi', rfl⟩ := List.getElem_of_mem hp
    exact ⟨(hq i hi').2.2.1, (hq i hi').2.2.2.1⟩), fun j u hu => ?_⟩⟩
   obtain ⟨i, hi', h⟩ := aD2 _ j u hu
   rw [List.length_map] at hi'
   obtain ⟨q1, q2, _⟩ := hq i hi'
   rcases h with ⟨rfl, rfl⟩ | ⟨rfl, rfl⟩
   · simpa using q1
   · simpa using q2
 · obtain ⟨x, hx, rfl⟩ := List.mem_map.1 hc
   obtain ⟨i, hi', rfl⟩ := List.getElem_of_mem hx
   exact (hq i hi').2.2.2.2
end
end Go.Proofs.Ytdhjchdbgognbaa.AM
namespace Go.Proofs.Ytdhjchdbgognbaa.AM
open Go Go.RowKit
structure Rf where
 name : ByteArray
 head : Int
 ver : Int
 gone : Bool
def xS (r : Rf) : AV := .agg [.v (.string r.name), .v (.int .i64 r.head), .v (.int .i64 r.ver), .v (.bool r.gone)]
theorem aJJ (es : List Rf) : ∀ x ∈ es.map xS, asz x = 4 := fun x hx => by obtain ⟨e, _, rfl⟩ := List.mem_map.1 hx; rfl
theorem qx (e : Rf) : yH (xS e) := by unfold xS; simp [yH, zG]
theorem aCq {a b : Rf} : a = b ↔ a.name = b.name ∧ a.head = b.head ∧ a.ver = b.ver ∧ a.gone = b.gone := by
 cases a; cases b; simp
abbrev rSz (e : Rf) : Nat := e.name.size
abbrev aHA : Rf := ⟨ByteArray.empty, 0, 0, false⟩
theorem aIt {P : Program} {t : TypeId} {x y : Operand} {a b c : Int} (h0 : 0 ≤ a) (hb : 0 < b) (h1 : b ≤ 1000) (h2 : a ≤ 1000000000) (hc : c = a % b) : y9 P .rem t x y (.int .i64 a) (.int .i64 b) (.int .i64 c) := fun w => by
 have hb0 : b ≠ 0 := by omega
 have hr : (Op.intDiv .rem .i64 a b).run P w = .ok (.int .i64 (a.tmod b)) w := by simp [Op.intDiv, hb0]
 subst hc
 rw [← Int.tmod_eq_emod_of_nonneg h0]
 simp [eqGuard, binOp, hr]
theorem aC1 {α : Type} {xs : List α} {k : Nat} {y : α} (h : k < xs.length) : (xs.set k y)[k]? = some y := by simp [h]
attribute [local irreducible] xO xU yD zA zJ Pre ACG
theorem aEM {e : Rf} {l : Int} (hk : e.name.size ≤ maxLen) (h0 : 0 ≤ l) (h1 : l ≤ 1048576) : AC Try.prog 64 [xS e, .v (.int .i64 l)] ⟨.v (.int .i64 (if l - e.name.size < 0 then -1 else l - e.name.size)), []⟩ := by
 unfold maxLen at hk
 by_cases hn : l - e.name.size < 0
 · rw [if_pos hn]
   refine qrf Try.func64 Try.ntmps64 Try.results64 ?_; conv => whnf
   repeat ((refine qz ?_; conv => whnf))
   exact xA rfl trivial
 · rw [if_neg hn]
   refine qrf Try.func64 Try.ntmps64 Try.results64 ?_; conv => whnf
   repeat ((refine qz ?_; conv => whnf))
   exact xA rfl trivial
theorem aHV {es : List Rf} {l : Int} (hm : es.length ≤ maxLen) (hk : ∀ e ∈ es, e.name.size ≤ maxLen) (h0 : 0 ≤ l) (h1 : l ≤ 1048576) : AC Try.prog 35 [.lst 4 (es.map xS), .v (.int .i64 l)] ⟨.v (.int .i64 (szL rSz es l)), []⟩ := by
 unfold maxLen at hm
 by_cases hn : l - es.length < 0
 · rw [szL, if_pos hn]
   refine qrf Try.func35 Try.ntmps35 Try.results35 ?_; conv => whnf
   repeat ((refine qz ?_; conv => whnf))
   exact xA rfl trivial
 · rw [szL, if_neg hn]
   refine qrf Try.func35 Try.ntmps35 Try.results35 ?_; conv => whnf
   repeat ((refine qz ?_; conv => whnf))
   refine xu (ι := { p : Nat × Int // p.1 ≤ es.length ∧ 0 ≤ p.2 ∧ p.2 ≤ l ∧ szF rSz (es.drop p.1) p.2 = szF rSz es (l - es.length) }) (fun p => ⟨[(0, .lst 4 (es.map xS)), (1, .v (.int .i64 p.1.2)), (5, .v (.int .i64 (p.1.1 : Int)))], []⟩) (fun p => es.length - p.1.1) ⟨(0, l - es.length), by simp, by omega, by omega, rfl⟩ (by exact qle) ?_
   rintro ⟨⟨k, cur⟩, hkl, hc0, hc1, hsz⟩
   simp only at hkl hc0 hc1 hsz ⊢
   conv => whnf
   by_cases hlt : k < es.length
   · have hd := aFI (g := rSz) (l := cur) hlt
     rw [hsz] at hd
     by_cases hneg : cur - (es[k]).name.size < 0
     · rw [if_pos hneg] at hd
       rw [hd]
       repeat (first | (refine qz ?_; conv => whnf) | (refine qp (aAd (aEM (hk _ (List.getElem_mem hlt)) (by omega) (by omega)) rfl (.inl rfl) trivial rfl rfl) ?_; rw [if_pos hneg]; conv => whnf))
       exact xA rfl trivial
     · rw [if_neg hneg] at hd
       repeat (first | (refine qz ?_; conv => whnf) | (refine qp (aAd (aEM (hk _ (List.getElem_mem hlt)) (by omega) (by omega)) rfl (.inl rfl) trivial rfl rfl) ?_; rw [if_neg hneg]; conv => whnf))
       exact ⟨⟨(k + 1, cur - (es[k]).name.size), by simp; omega, by omega, by omega, hd.symm⟩, by exact qle, by simp; omega⟩
   · have hkk : k = es.length := by omega
     rw [hkk, List.drop_length] at hsz
     rw [← hsz]
     repeat ((refine qz ?_; conv => whnf))
     exact xA rfl trivial
theorem aIZ {c : Rf} : AC Try.prog 69 [xS c] ⟨xS c, []⟩ := by
 refine qrf Try.func69 Try.ntmps69 Try.results69 ?_; conv => whnf
 repeat (first | (refine qz ?_; conv => whnf) | (refine qr (yQ rfl rfl rfl rfl rfl rfl rfl) ?_; conv => whnf) | (refine qr (yQ rfl rfl rfl rfl rfl (by conv => lhs; whnf) rfl) ?_; conv => whnf))
 exact aBF (x := xS c) rfl rfl rfl rfl trivial
theorem aDA {l : List Rf} (hm : l.length ≤ 1048576) : AC Try.prog 39 [.lst 4 (l.map xS)] ⟨.own 0, [⟨68, 4, l.map xS⟩]⟩ := by
 refine qrf Try.func39 Try.ntmps39 Try.results39 ?_; conv => whnf
 repeat (first | (refine qz ?_; conv => whnf) | (refine qr (aCS (n := l.length) (by omega) (by omega) (by simp; rfl) (by simp; rfl) rfl rfl) ?_; conv => whnf))
 have hrow : List.replicate l.length (AV.agg [zS, zI, zI, zB]) = (l.take 0 ++ List.replicate (l.length - 0) aHA).map xS := by simp [xS]
 refine xu (ι := { k : Nat // k ≤ l.length }) (fun k => ⟨[(0, .lst 4 (l.map xS)), (3, .own 8), (4, .v (.int .i64 (k.1 : Int)))], [(8, ⟨68, 4, (l.take k.1 ++ List.replicate (l.length - k.1) aHA).map xS⟩)]⟩) (fun k => l.length - k.1) ⟨0, Nat.zero_le _⟩ ⟨⟨congrArg (fun x => some (OB.mk _ _ x)) hrow, trivial⟩, .inl ⟨rfl, rfl⟩, .inl ⟨rfl, rfl⟩, .inl ⟨rfl, rfl⟩, trivial⟩ ?_
 rintro ⟨k, hk⟩
 dsimp only
 conv => whnf
 by_cases hlt : k < l.length
 · have hlt2 : k < (l.take k ++ List.replicate (l.length - k) aHA).length := by simp; omega
   have hset := congrArg (List.map xS) (qw l aHA k hlt)
   rw [List.map_set] at hset
   repeat ((first | refine qz ?_ | refine qc (aIZ (c := l[k])) ?_ | refine qp (vk (by simpa using hlt2) rfl rfl rfl rfl rfl) ?_ | refine qr (yQ (jS _ hlt2) rfl rfl rfl rfl rfl rfl) ?_); conv => whnf)
   exact ⟨⟨k + 1, hlt⟩, ⟨⟨congrArg (fun x => some (OB.mk _ _ x)) hset, trivial⟩, .inl ⟨rfl, rfl⟩, .inl ⟨rfl, rfl⟩, .inl ⟨rfl, rfl⟩, trivial⟩, by simp; omega⟩
 · have hkk : k = l.length := by omega
   subst hkk
   repeat ((refine qz ?_; conv => whnf))
   exact aCV rfl (by show some (OB.mk _ _ _) = _; rw [List.take_length, Nat.sub_self, List.replicate_zero, List.append_nil])
theorem aIM {c : Rf} : AC Try.prog 74 [xS c, xS c] ⟨.v (.bool true), []⟩ := by
 have hb : (c.gone != c.gone) = false := by simp
 refine qrf Try.func74 Try.ntmps74 Try.results74 ?_; conv => whnf
 repeat (first | (refine qp (xR (wo rfl) rfl rfl rfl) ?_; conv => whnf) | (refine qz ?_; conv => whnf) | (refine qp (xR (wN Try.underlying4) rfl rfl rfl) ?_; rw [hb]; conv => whnf))
 exact xA rfl trivial
theorem aHK {l : List Rf} (hm : l.length ≤ maxLen) : AC Try.prog 43 [.lst 4 (l.map xS), .lst 4 (l.map xS)] ⟨.v (.bool true), []⟩ := by
 unfold maxLen at hm
 refine qrf Try.func43 Try.ntmps43 Try.results43 ?_; conv => whnf
 repeat ((refine qz ?_; conv => whnf))
 refine xu (ι := { k : Nat // k ≤ l.length }) (fun k => ⟨[(0, .lst 4 (l.map xS)), (1, .lst 4 (l.map xS)), (5, .v (.int .i64 (k.1 : Int)))], []⟩) (fun k => l.length - k.1) ⟨0, Nat.zero_le _⟩ (by exact qle) ?_
 rintro ⟨k, hk⟩
 dsimp only
 conv => whnf
 by_cases hlt : k < l.length
 · repeat ((refine qz ?_; conv => whnf))
   refine .inl ⟨by kernel_rfl, ?_⟩
   conv => whnf
   repeat ((first | refine qz ?_ | refine qc (aIM (c := l[k])) ?_); conv => whnf)
   exact ⟨⟨k + 1, hlt⟩, by exact qle, by simp; omega⟩
 · repeat ((refine qz ?_; conv => whnf))
   exact xA rfl trivial
end Go.Proofs.Ytdhjchdbgognbaa.AM
namespace Go.Proofs.Ytdhjchdbgognbaa.AM
open Go Go.RowKit Go.ChangeShapes Go.WideShapes Go.Deep
def aAK (r : Rf) : List Value := [.string r.name, .int .i64 r.head, .int .i64 r.ver, .bool r.gone]
def vz (l : List Rf) : List Value := l.flatMap aAK
theorem aEu : ∀ (l : List Rf) (j : Nat) (u : Value), (vz l)[j]? = some u → ∃ i, ∃ hi : i < l.length, (j = i * 4 ∧ u = .string l[i].name) ∨ (j = i * 4 + 1 ∧ u = .int .i64 l[i].head) ∨ (j = i * 4 + 2 ∧ u = .int .i64 l[i].ver) ∨ (j = i * 4 + 3 ∧ u = .bool l[i].gone)
 | [], j, u, h => by simp [vz] at h
 | r :: l, 0, u, h => by simp [vz, aAK] at h; exact ⟨0, by simp, .inl ⟨rfl, h.symm⟩⟩
 | r :: l, 1, u, h => by simp [vz, aAK] at h; exact ⟨0, by simp, .inr (.inl ⟨rfl, h.symm⟩)⟩
 | r :: l, 2, u, h => by simp [vz, aAK] at h; exact ⟨0, by simp, .inr (.inr (.inl ⟨rfl, h.symm⟩))⟩
 | r :: l, 3, u, h => by simp [vz, aAK] at h; exact ⟨0, by simp, .inr (.inr (.inr ⟨rfl, h.symm⟩))⟩
 | r :: l, j + 4, u, h => by
  have h' : (vz l)[j]? = some u := by
   have : vz (r :: l) = aAK r ++ vz l := rfl
   rw [this, List.getElem?_append_right (by simp [aAK])] at h
   simpa [aAK] using h
  obtain ⟨i, hi, h⟩ := aEu l j u h'
  refine ⟨i + 1, by simpa using hi, ?_⟩
  simp only [List.getElem_cons_succ]
  rcases h with ⟨h1, h2⟩ | ⟨h1, h2⟩ | ⟨h1, h2⟩ | ⟨h1, h2⟩
  · exact .inl ⟨by omega, h2⟩
  · exact .inr (.inl ⟨by omega, h2⟩)
  · exact .inr (.inr (.inl ⟨by omega, h2⟩))
  · exact .inr (.inr (.inr ⟨by omega, h2⟩))
section
variable {S : Nat → Prop} {w : World}
theorem aGJ : ∀ (l : List Rf), RL S w (l.map xS) (vz l)
 | [] => wX
 | r :: l => by
  have : vz (r :: l) = aAK r ++ vz l := rfl
  rw [List.map_cons, this]
  exact yx (aCX (yx (c1 := [_]) (kZ rfl) (yx (c1 := [_]) (kZ rfl) (yx (c1 := [_]) (kZ rfl) (yx (c1 := [_]) (kZ rfl) wX))))) (aGJ l)
end
section
variable {H : Type} {enc : TypeId × Value → H} {P : Program} {w : World} {base : Nat} {held : Bool}
theorem aHj {t e : TypeId} {f0 f1 f2 f3 : Field} {A : Option Addr} {n c : Nat} {d : DataW H} {p : List MemPlace} (ht : P.underlying t = some (.slice e)) (he : P.underlying e = some (.struct #[f0, f1, f2, f3]))
 (hone : oneCellFields P #[f0, f1, f2, f3] = true) (hC : P.cellsOf e = 4) (h0 : P.underlying f0.type = some .string) (h1 : P.underlying f1.type = some (.int .i64)) (h2 : P.underlying f2.type = some (.int .i64)) (h3 : P.underlying f3.type = some .bool) (h : DataW.Trod enc P w base (fun _ => true) held t (.slice A n c) d p) :
 ∃ l : List Rf, (∀ hp B V, RV (InW w) w hp B V (.lst 4 (l.map xS)) (.slice A n c)) ∧ l.length ≤ maxLen ∧ ∀ r ∈ l, r.name.size ≤ maxLen := by
 have hcap := aBe ht h
 obtain ⟨hn, hf⟩ := qE ht he hone hC (by simp) h
 rcases Nat.eq_zero_or_pos n with h | hpos
 · subst h
   refine ⟨[], fun hp B V => ?_, Nat.zero_le _, fun c hc => by cases hc⟩
   simp only [List.map_nil]
   unfold RV RA
   exact ⟨_, _, rfl, Nat.zero_le _, hcap.2, by simp, by omega, .inl rfl⟩
 obtain ⟨b, off, rfl, hlt, hi⟩ := hf hpos
 obtain ⟨l, hl, hq⟩ := aAw (α := Rf) n (fun i x => w.cell? ⟨b, off + (i * 4 + 0), none⟩ = some (.string x.name) ∧ w.cell? ⟨b, off + (i * 4 + 1), none⟩ = some (.int .i64 x.head) ∧ w.cell? ⟨b, off + (i * 4 + 2), none⟩ = some (.int .i64 x.ver) ∧ w.cell? ⟨b, off + (i * 4 + 3), none⟩ = some (.bool x.gone) ∧ x.name.size ≤ maxLen) (fun i hin => by
  obtain ⟨k, hk⟩ := hi i hin
  obtain ⟨v0, y0, c0, t0⟩ := hk 0 f0 rfl
  obtain ⟨v1, y1, c1, t1⟩ := hk 1 f1 rfl
  obtain ⟨v2, y2, c2, t2⟩ := hk 2 f2 rfl
  obtain ⟨v3, y3, c3, t3⟩ := hk 3 f3 rfl
  obtain ⟨s, hs, _, hsz⟩ := DataW.trod_string h0 t0
  obtain ⟨x, hx, _, _⟩ := DataW.trod_int h1 t1
  obtain ⟨y, hy, _, _⟩ := DataW.trod_int h2 t2
  obtain ⟨g, hg, _⟩ := DataW.trod_bool h3 t3
  simp at hs hx hy hg
  subst hs; subst hx; subst hy; subst hg
  exact ⟨⟨s, x, y, g⟩, c0, c1, c2, c3, hsz⟩)
 refine ⟨l, fun hp B V => ?_, by omega, fun r hr => ?_⟩
 · unfold RV RA
   refine ⟨_, c, by rw [List.length_map, hl], by rw [List.length_map, hl]; exact hcap.1, hcap.2, aJJ _, by omega, .inr ⟨b, off, _, rfl, hlt, aGJ l, fun j u hu => ?_⟩⟩
   obtain ⟨i, hi', h⟩ := aEu _ j u hu
   obtain ⟨q0, q1, q2, q3, _⟩ := hq i hi'
   rcases h with ⟨rfl, rfl⟩ | ⟨rfl, rfl⟩ | ⟨rfl, rfl⟩ | ⟨rfl, rfl⟩
   · exact q0
   · exact q1
   · exact q2
   · exact q3
 · obtain ⟨i, hi', rfl⟩ := List.getElem_of_mem hr
   exact (hq i hi').2.2.2.2
end
end Go.Proofs.Ytdhjchdbgognbaa.AM
namespace Go.Proofs.Ytdhjchdbgognbaa
open Go.RowKit Go.ChangeShapes Go.WideShapes Go.Deep
section
variable {H : Type} {enc : TypeId × Value → H} {P : Program} {w : World} {base : Nat} {held : Bool}
end
end Go.Proofs.Ytdhjchdbgognbaa
namespace Go.Proofs.Ytdhjchdbgognbaa.AM
open Go Go.RowKit
end Go.Proofs.Ytdhjchdbgognbaa.AM
namespace Go.Proofs.Ytdhjchdbgognbaa.AM
open Go Go.RowKit Go.ChangeShapes Go.WideShapes Go.Deep
structure Opr where
 kind : Int
 frm : Int
 name : ByteArray
 key : ByteArray
 edits : List Edt
structure Bas where
 store : List Cmt
 refs : List Rf
structure Rst where
 code : Int
 com : Int
 val : Int
 keys : List ByteArray
 map : List Ent
def xX (b : Bas) : AV := .agg [.lst 2 (b.store.map xL), .lst 4 (b.refs.map xS)]
def Opr.ok (o : Opr) (N : Nat) : Prop := o.name.size ≤ N ∧ o.key.size ≤ N ∧ o.edits.length ≤ N ∧ ∀ e ∈ o.edits, e.key.size ≤ N
def Rst.ok (r : Rst) (N : Nat) : Prop := r.keys.length ≤ N ∧ (∀ k ∈ r.keys, k.size ≤ N) ∧ r.map.length ≤ N ∧ ∀ e ∈ r.map, e.1.size ≤ N
section
variable {S : Nat → Prop} {w : World}
end
section
variable {H : Type} {enc : TypeId × Value → H} {P : Program} {w : World} {base : Nat} {held : Bool}
theorem aEm {t : TypeId} {fs : Array Field} {cs : Array Value} {d : DataW H} {p : List MemPlace} (ht : P.underlying t = some (.struct fs)) (hone : oneCellFields P fs = true) (hC : P.cellsOf t = fs.size) (h : DataW.Trod enc P w base (fun _ => true) held t (.agg cs) d p) :
 cs.toList.length = fs.size ∧ ∃ k, ∀ (j : Nat) (f : Field), fs[j]? = some f → ∃ (v : Value) (y : DataW H × List MemPlace), cs.toList[j]? = some v ∧ DataW.trod enc P w base (fun _ => true) held k f.type [v] = some y := by
 obtain ⟨fuel, hf⟩ := h
 obtain ⟨ys, n', hn', hy, hlen, hyl, hf⟩ := DataW.trod_struct ht hf
 rw [hC] at hlen
 have hlen' : cs.toList.length = fs.size := by simpa [Value.cells] using hlen
 refine ⟨hlen', n', fun j f hj => ?_⟩
 obtain ⟨ho, hk⟩ := hone_of hone j f hj
 have hjl : j < fs.size := (Array.getElem?_eq_some_iff.1 hj).1
 have hv : cs.toList[j]? = some (cs.toList[j]'(by omega)) := List.getElem?_eq_getElem (by omega)
 have h1 := hf j f hj
 rw [ho, hk] at h1
 have hone' : ((Value.cells (.agg cs)).toList.drop j).take 1 = [cs.toList[j]'(by omega)] := by
  show (cs.toList.drop j).take 1 = _
  rw [List.drop_eq_getElem_cons (by omega)]
  rfl
 rw [hone'] at h1
 have hys : ys[j]? = some (ys[j]'(by omega)) := List.getElem?_eq_getElem (by omega)
 exact ⟨_, _, hv, h1.trans hys⟩
theorem aIx {α : Type} {l : List α} {a b : α} (h : l.length = 2) (h0 : l[0]? = some a) (h1 : l[1]? = some b) : l = [a, b] := by
 match l, h with
 | [_, _], _ => simp at h0 h1; subst h0 h1; rfl
theorem aGQ {t : TypeId} {v : Value} {k : Nat} {y : DataW H × List MemPlace} (hv : (Value.cells v).toList = [v]) (h : DataW.trod enc P w base (fun _ => true) held k t [v] = some y) : DataW.Trod enc P w base (fun _ => true) held t v y.1 y.2 := ⟨k, by rw [hv]; exact h⟩
theorem aIB {hp : Nat → Option OB} {B : Nat → Nat} {V : Nat → Value} {xs : List AV} {cs : Array Value} {l : List Value} (h : cs.toList = l) (hr : RL (InW w) w xs l) : RV (InW w) w hp B V (.agg xs) (.agg cs) := by
 unfold RV; exact ⟨l, by rw [← h], hr⟩
theorem open_bas {t tc te tr : TypeId} {f0 f1 c0f c1f g0 g1 r0 r1 r2 r3 : Field} {e0 : TypeId} {cs : Array Value} {d : DataW H} {p : List MemPlace} (ht : P.underlying t = some (.struct #[f0, f1])) (hone : oneCellFields P #[f0, f1] = true) (hC : P.cellsOf t = 2)
 (u0 : P.underlying f0.type = some (.slice tc)) (uc : P.underlying tc = some (.struct #[c0f, c1f])) (honec : oneCellFields P #[c0f, c1f] = true) (hCc : P.cellsOf tc = 2)
 (h0 : P.underlying c0f.type = some (.slice e0)) (hi0 : P.underlying e0 = some (.int .i64)) (hC0 : P.cellsOf e0 = 1)
 (h1 : P.underlying c1f.type = some (.slice te)) (h2 : P.underlying te = some (.struct #[g0, g1])) (hone1 : oneCellFields P #[g0, g1] = true) (hC1 : P.cellsOf te = 2) (k0 : P.underlying g0.type = some .string) (k1 : P.underlying g1.type = some (.int .i64))
 (u1 : P.underlying f1.type = some (.slice tr)) (ur : P.underlying tr = some (.struct #[r0, r1, r2, r3])) (honer : oneCellFields P #[r0, r1, r2, r3] = true) (hCr : P.cellsOf tr = 4) (q0 : P.underlying r0.type = some .string) (q1 : P.underlying r1.type = some (.int .i64)) (q2 : P.underlying r2.type = some (.int .i64)) (q3 : P.underlying r3.type = some .bool)
 (h : DataW.Trod enc P w base (fun _ => true) held t (.agg cs) d p) : ∃ b : Bas, (∀ hp B V, RV (InW w) w hp B V (xX b) (.agg cs)) ∧ (b.store.length ≤ maxLen ∧ y5 maxLen b.store) ∧ b.refs.length ≤ maxLen ∧ ∀ r ∈ b.refs, r.name.size ≤ maxLen := by
 obtain ⟨hl, k, hk⟩ := aEm ht hone hC h
 obtain ⟨v0, y0, c0, t0⟩ := hk 0 f0 rfl
 obtain ⟨v1, y1, c1, t1⟩ := hk 1 f1 rfl
 obtain ⟨A0, n0, c0', rfl⟩ := aAc u0 t0
 obtain ⟨A1, n1, c1', rfl⟩ := aAc u1 t1
 obtain ⟨st, hst, hsm, hsk⟩ := aHh u0 uc honec hCc h0 hi0 hC0 h1 h2 hone1 hC1 k0 k1 (aGQ rfl t0)
 obtain ⟨rf, hrf, hrm, hrk⟩ := aHj u1 ur honer hCr q0 q1 q2 q3 (aGQ rfl t1)
 have a0 := hst (fun _ => none) (fun _ => 0) (fun _ => undef)
 have a1 := hrf (fun _ => none) (fun _ => 0) (fun _ => undef)
 unfold RV at a0 a1
 exact ⟨⟨st, rf⟩, fun hp B V => aIB (aIx (by simpa using hl) c0 c1) (yx (c1 := [_]) a0 (yx (c1 := [_]) a1 wX)), ⟨hsm, hsk⟩, hrm, hrk⟩
end
end Go.Proofs.Ytdhjchdbgognbaa.AM
namespace Go.Proofs.Ytdhjchdbgognbaa
open Go.RowKit
theorem aCC : Try.prog.stoodInHeld 88 = false := by kernel_rfl
theorem aBQ : Try.prog.eqGuardType Try.prog.depth 88 = false := by kernel_rfl
set_option maxHeartbeats 1000000 in
set_option maxRecDepth 100000 in
theorem aF9 (A : Option Addr) (n c : Nat) (es : List Ent) (A' : Option Addr) (n' c' : Nat) (es' : List Ent) (w : World) (hr : Rd w 2 A n (xJ es)) (hr' : Rd w 2 A' n' (xJ es')) (hm : n ≤ maxLen) (hm' : n' ≤ maxLen) :
 Calls Try.prog 118 #[.slice A n c, .slice A' n' c'] w fun e w' => e = .returned (.bool (decide (es = es'))) ∧ Below w.heap.size w w' := by
 unfold maxLen at hm hm'
 have hlen := hr.len
 have hlen' := hr'.len
 have Hlen := Lib.hid hlen; clear hlen
 have Hlen' := Lib.hid hlen'; clear hlen'
 by_cases hne : n = n'
 case neg =>
  have hfin : Hid (decide (es = es') = false) := decide_eq_false (fun h => hne (by rw [← Hlen.out, ← Hlen'.out, h]))
  have hb : ((n : Int) != n') = true := by rw [bne_iff_ne]; omega
  go_enter Try.func118, Try.ntmps118
  go_wp2
  go_ret
  exact ⟨xM hfin.out.symm, Below.refl _ _⟩
 subst hne
 go_enter Try.func118, Try.ntmps118
 go_wp2
 go_loopw [5] (fun i wr => ∃ k : Nat, k ≤ n ∧ i = .int .i64 k ∧ es.take k = es'.take k ∧ Below w.heap.size w wr) (fun i _ => n - (intOf i).toNat)
 case atStart => exact ⟨0, Nat.zero_le _, rfl, rfl, Below.refl _ _⟩
 case round =>
  obtain ⟨k, hk, rfl, heq, hb⟩ := hrel
  have Heq := Lib.hid heq; clear heq
  by_cases hlt : k < n
  · have hke : k < es.length := by rw [Hlen.out]; exact hlt
    have hke' : k < es'.length := by rw [Hlen'.out]; exact hlt
    obtain ⟨b, off, rfl, hbl, hbl2, hc1, hc2⟩ := hr.ent hb hke
    obtain ⟨b', off', rfl, hbl', hbl2', hc1', hc2'⟩ := hr'.ent hb hke'
    have hA0 := fun y : Aft wr => y.cell hbl2 hc1
    have hA1 := fun y : Aft wr => y.cell hbl2 hc2
    have hA2 := fun y : Aft wr => y.cell hbl2' hc1'
    have hA3 := fun y : Aft wr => y.cell hbl2' hc2'
    have hyes : Hid (es[k] = es'[k] → es.take (k + 1) = es'.take (k + 1)) := by
     intro h'
     rw [List.take_succ_eq_append_getElem hke, List.take_succ_eq_append_getElem hke', Heq.out, h']
    have hno : Hid (es[k] ≠ es'[k] → decide (es = es') = false) := by
     intro h
     refine decide_eq_false (fun e => ?_)
     subst e
     exact h rfl
    generalize es[k] = ek at *
    generalize es'[k] = ek' at *
    obtain ⟨k1, v1⟩ := ek
    obtain ⟨k2, v2⟩ := ek'
    have hsh := aCC
    have hsg := aBQ
    by_cases hkk : k1 = k2
    · subst hkk
      by_cases hvv : v1 = v2
      · subst hvv
        have hyes' := Lib.hid (hyes.out rfl)
        clear hyes hno
        go_wp2
        refine xB (by kernel_rfl) (by kernel_rfl) ?_
        repeat (go_big_quiet_step (fail))
        refine wpQuiet_nil ?_
        rintro _ ⟨y, rfl⟩
        have hb3 := yA hb y.below
        generalize y.at_ = w3 at *
        go_wp2
        go_roundw
        case rel => exact ⟨k + 1, by omega, by go_num, hyes'.out, hb3⟩
        case measure => simp [intOf]; omega
      · have hno' := Lib.hid (hno.out (fun h => hvv (by cases h; rfl)))
        clear hyes hno
        go_wp2
        refine xB (by kernel_rfl) (by kernel_rfl) ?_
        repeat (go_big_quiet_step (fail))
        refine wpQuiet_nil ?_
        rintro _ ⟨y, rfl⟩
        have hb3 := yA hb y.below
        generalize y.at_ = w3 at *
        go_wp2
        go_ret
        exact ⟨xM hno'.out.symm, hb3⟩
    · have hno' := Lib.hid (hno.out (fun h => hkk (by cases h; rfl)))
      have hkl : ¬ k1.toList = k2.toList := fun h => hkk (toList_inj h)
      clear hyes hno
      go_wp2
      refine xB (by kernel_rfl) (by kernel_rfl) ?_
      repeat (go_big_quiet_step (fail))
      refine wpQuiet_nil ?_
      rintro _ ⟨y, rfl⟩
      have hb3 := yA hb y.below
      generalize y.at_ = w3 at *
      go_wp2
      go_ret
      exact ⟨xM hno'.out.symm, hb3⟩
  · have hfin : Hid (decide (es = es') = true) := by
     have h := Heq.out
     rw [List.take_of_length_le (by rw [Hlen.out]; omega), List.take_of_length_le (by rw [Hlen'.out]; omega)] at h
     exact decide_eq_true h
    go_wp2
    go_ret
    exact ⟨xM hfin.out.symm, hb⟩
set_option maxHeartbeats 1000000 in
set_option maxRecDepth 100000 in
theorem aC2 (A : Option Addr) (n c : Nat) (es : List Ent) (A' : Option Addr) (n' c' : Nat) (es' : List Ent) (w : World) (hr : Rd w 2 A n (xJ es)) (hr' : Rd w 2 A' n' (xJ es')) (hm : n ≤ maxLen) (hm' : n' ≤ maxLen) :
 Calls Try.prog 92 #[.slice A n c, .slice A' n' c'] w fun e w' => e = .returned (.bool (decide (es = es'))) ∧ Below w.heap.size w w' := by
 unfold maxLen at hm hm'
 have hlen := hr.len
 have hlen' := hr'.len
 have Hlen := Lib.hid hlen; clear hlen
 have Hlen' := Lib.hid hlen'; clear hlen'
 by_cases hne : n = n'
 case neg =>
  have hfin : Hid (decide (es = es') = false) := decide_eq_false (fun h => hne (by rw [← Hlen.out, ← Hlen'.out, h]))
  have hb : ((n : Int) != n') = true := by rw [bne_iff_ne]; omega
  go_enter Try.func92, Try.ntmps92
  go_wp2
  go_ret
  exact ⟨xM hfin.out.symm, Below.refl _ _⟩
 subst hne
 go_enter Try.func92, Try.ntmps92
 go_wp2
 go_loopw [5, 13] (fun _ i wr => ∃ k : Nat, k ≤ n ∧ i = .int .i64 k ∧ es.take k = es'.take k ∧ Below w.heap.size w wr) (fun _ i _ => n - (intOf i).toNat)
 case atStart => exact ⟨0, Nat.zero_le _, rfl, rfl, Below.refl _ _⟩
 case round =>
  obtain ⟨k, hk, rfl, heq, hb⟩ := hrel
  have Heq := Lib.hid heq; clear heq
  by_cases hlt : k < n
  · have hke : k < es.length := by rw [Hlen.out]; exact hlt
    have hke' : k < es'.length := by rw [Hlen'.out]; exact hlt
    obtain ⟨b, off, rfl, hbl, hbl2, hc1, hc2⟩ := hr.ent hb hke
    obtain ⟨b', off', rfl, hbl', hbl2', hc1', hc2'⟩ := hr'.ent hb hke'
    have hA0 := fun y : Aft wr => y.cell hbl2 hc1
    have hA1 := fun y : Aft wr => y.cell hbl2 hc2
    have hA2 := fun y : Aft wr => y.cell hbl2' hc1'
    have hA3 := fun y : Aft wr => y.cell hbl2' hc2'
    have hyes : Hid (es[k] = es'[k] → es.take (k + 1) = es'.take (k + 1)) := by
     intro h'
     rw [List.take_succ_eq_append_getElem hke, List.take_succ_eq_append_getElem hke', Heq.out, h']
    have hno : Hid (es[k] ≠ es'[k] → decide (es = es') = false) := by
     intro h
     refine decide_eq_false (fun e => ?_)
     subst e
     exact h rfl
    generalize es[k] = ek at *
    generalize es'[k] = ek' at *
    obtain ⟨k1, v1⟩ := ek
    obtain ⟨k2, v2⟩ := ek'
    have hsh := aCC
    have hsg := aBQ
    by_cases hkk : k1 = k2
    · subst hkk
      by_cases hvv : v1 = v2
      · subst hvv
        have hyes' := Lib.hid (hyes.out rfl)
        clear hyes hno
        go_wp2
        refine xB (by kernel_rfl) (by kernel_rfl) ?_
        repeat (go_big_quiet_step (fail))
        refine wpQuiet_nil ?_
        rintro _ ⟨y, rfl⟩
        have hb3 := yA hb y.below
        generalize y.at_ = w3 at *
        go_wp2
        go_roundw
        case rel => exact ⟨k + 1, by omega, by go_num, hyes'.out, hb3⟩
        case measure => simp [intOf]; omega
      · have hno' := Lib.hid (hno.out (fun h => hvv (by cases h; rfl)))
        clear hyes hno
        go_wp2
        refine xB (by kernel_rfl) (by kernel_rfl) ?_
        repeat (go_big_quiet_step (fail))
        refine wpQuiet_nil ?_
        rintro _ ⟨y, rfl⟩
        have hb3 := yA hb y.below
        generalize y.at_ = w3 at *
        go_wp2
        go_ret
        exact ⟨xM hno'.out.symm, hb3⟩
    · have hno' := Lib.hid (hno.out (fun h => hkk (by cases h; rfl)))
      have hkl : ¬ k1.toList = k2.toList := fun h => hkk (toList_inj h)
      clear hyes hno
      go_wp2
      refine xB (by kernel_rfl) (by kernel_rfl) ?_
      repeat (go_big_quiet_step (fail))
      refine wpQuiet_nil ?_
      rintro _ ⟨y, rfl⟩
      have hb3 := yA hb y.below
      generalize y.at_ = w3 at *
      go_wp2
      go_ret
      exact ⟨xM hno'.out.symm, hb3⟩
  · have hfin : Hid (decide (es = es') = true) := by
     have h := Heq.out
     rw [List.take_of_length_le (by rw [Hlen.out]; omega), List.take_of_length_le (by rw [Hlen'.out]; omega)] at h
     exact decide_eq_true h
    go_wp2
    go_ret
    exact ⟨xM hfin.out.symm, hb⟩
end Go.Proofs.Ytdhjchdbgognbaa
namespace Go.Proofs.Ytdhjchdbgognbaa.AM
open Go Go.RowKit
attribute [local irreducible] xO xU yD zA zJ Pre ACG
theorem aJP : ∀ vs w, (callFunc 118 vs).run Try.prog w = .ok (.enter 118 vs) w := zY Try.func118 (by kernel_rfl) (by kernel_rfl)
theorem aKI : ∀ vs w, (callFunc 92 vs).run Try.prog w = .ok (.enter 92 vs) w := zY Try.func92 (by kernel_rfl) (by kernel_rfl)
theorem aG1 {es es' : List Ent} (hm : es.length ≤ maxLen) (hm' : es'.length ≤ maxLen) : AC Try.prog 118 [.lst 2 (es.map xD), .lst 2 (es'.map xD)] ⟨.v (.bool (decide (es = es'))), []⟩ :=
 vD aJP rfl fun w S0 vs hS hv => by
  obtain ⟨u, us, rfl, h1, hv⟩ := qG hv
  obtain ⟨u', rfl, h2⟩ := vL hv
  obtain ⟨A, c, rfl, _, _, hr⟩ := zC hS h1
  obtain ⟨A', c', rfl, _, _, hr'⟩ := zC hS h2
  exact aF9 A _ c es A' _ c' es' w hr hr' hm hm'
theorem aGV {es es' : List Ent} (hm : es.length ≤ maxLen) (hm' : es'.length ≤ maxLen) : AC Try.prog 92 [.lst 2 (es.map xD), .lst 2 (es'.map xD)] ⟨.v (.bool (decide (es = es'))), []⟩ :=
 vD aKI rfl fun w S0 vs hS hv => by
  obtain ⟨u, us, rfl, h1, hv⟩ := qG hv
  obtain ⟨u', rfl, h2⟩ := vL hv
  obtain ⟨A, c, rfl, _, _, hr⟩ := zC hS h1
  obtain ⟨A', c', rfl, _, _, hr'⟩ := zC hS h2
  exact aC2 A _ c es A' _ c' es' w hr hr' hm hm'
theorem aBy {α : Type} {a b : List α} (h : a.length = b.length) (he : ∀ i, i < a.length → ∃ (h1 : i < a.length) (h2 : i < b.length), a[i] = b[i]) : a = b :=
 List.ext_getElem h fun i h1 h2 => (he i h1).2.2
def Agree {α : Type} (a b : List α) (k : Nat) : Prop := ∀ i, i < k → ∃ (h1 : i < a.length) (h2 : i < b.length), a[i] = b[i]
theorem Agree.snoc {α : Type} {a b : List α} {k : Nat} (h : Agree a b k) (h1 : k < a.length) (h2 : k < b.length) (he : a[k] = b[k]) : Agree a b (k + 1) := fun i hi => by
 rcases Nat.lt_or_ge i k with h' | h'
 · exact h i h'
 · have : i = k := by omega
   subst this; exact ⟨h1, h2, he⟩
theorem aGZ {a b : List Int} (hm : a.length ≤ maxLen) (hm' : b.length ≤ maxLen) : AC Try.prog 117 [.lst 1 (a.map yC), .lst 1 (b.map yC)] ⟨.v (.bool (decide (a = b))), []⟩ := by
 unfold maxLen at hm hm'
 by_cases hl : a.length = b.length
 case neg =>
  rw [decide_eq_false (fun e => hl (by rw [e]))]
  refine qrf Try.func117 Try.ntmps117 Try.results117 ?_; conv => whnf
  repeat ((refine qz ?_; conv => whnf))
  exact xA rfl trivial
 refine qrf Try.func117 Try.ntmps117 Try.results117 ?_; conv => whnf
 repeat ((refine qz ?_; conv => whnf))
 refine xu (ι := { k : Nat // k ≤ a.length ∧ Agree a b k }) (fun k => ⟨[(0, .lst 1 (a.map yC)), (1, .lst 1 (b.map yC)), (5, .v (.int .i64 (k.1 : Int)))], []⟩) (fun k => a.length - k.1) ⟨0, Nat.zero_le _, fun i h => by omega⟩ (by exact qle) ?_
 rintro ⟨k, hk, hg⟩
 dsimp only at hk hg ⊢
 conv => whnf
 by_cases hlt : k < a.length
 case neg =>
  rw [decide_eq_true (aBy hl (fun i hi => hg i (by omega)))]
  repeat ((refine qz ?_; conv => whnf))
  exact xA rfl trivial
 have hlt' : k < b.length := by omega
 by_cases he : a[k] = b[k]
 · repeat ((refine qz ?_; conv => whnf))
   refine .inl ⟨by kernel_rfl, ?_⟩
   conv => whnf
   repeat ((refine qz ?_; conv => whnf))
   exact ⟨⟨k + 1, hlt, hg.snoc hlt hlt' he⟩, by exact qle, by simp; omega⟩
 · rw [decide_eq_false (fun e => he (by subst e; rfl))]
   repeat ((refine qz ?_; conv => whnf))
   refine .inl ⟨by kernel_rfl, ?_⟩
   conv => whnf
   repeat ((refine qz ?_; conv => whnf))
   exact xA rfl trivial
theorem aGW {a b : List Int} (hm : a.length ≤ maxLen) (hm' : b.length ≤ maxLen) : AC Try.prog 91 [.lst 1 (a.map yC), .lst 1 (b.map yC)] ⟨.v (.bool (decide (a = b))), []⟩ := by
 unfold maxLen at hm hm'
 by_cases hl : a.length = b.length
 case neg =>
  rw [decide_eq_false (fun e => hl (by rw [e]))]
  refine qrf Try.func91 Try.ntmps91 Try.results91 ?_; conv => whnf
  repeat ((refine qz ?_; conv => whnf))
  exact xA rfl trivial
 refine qrf Try.func91 Try.ntmps91 Try.results91 ?_; conv => whnf
 repeat ((refine qz ?_; conv => whnf))
 refine xu (ι := { k : Nat // k ≤ a.length ∧ Agree a b k }) (fun k => ⟨[(0, .lst 1 (a.map yC)), (1, .lst 1 (b.map yC)), (12, .v (.int .i64 (a.length : Int))), (13, .v (.int .i64 (k.1 : Int)))], []⟩) (fun k => a.length - k.1) ⟨0, Nat.zero_le _, fun i h => by omega⟩ (by exact qle) ?_
 rintro ⟨k, hk, hg⟩
 dsimp only at hk hg ⊢
 conv => whnf
 by_cases hlt : k < a.length
 case neg =>
  rw [decide_eq_true (aBy hl (fun i hi => hg i (by omega)))]
  repeat ((refine qz ?_; conv => whnf))
  exact xA rfl trivial
 have hlt' : k < b.length := by omega
 by_cases he : a[k] = b[k]
 · repeat ((refine qz ?_; conv => whnf))
   refine .inl ⟨by kernel_rfl, ?_⟩
   conv => whnf
   repeat ((refine qz ?_; conv => whnf))
   exact ⟨⟨k + 1, hlt, hg.snoc hlt hlt' he⟩, by exact qle, by simp; omega⟩
 · rw [decide_eq_false (fun e => he (by subst e; rfl))]
   repeat ((refine qz ?_; conv => whnf))
   refine .inl ⟨by kernel_rfl, ?_⟩
   conv => whnf
   repeat ((refine qz ?_; conv => whnf))
   exact xA rfl trivial
theorem aFp {a b : Cmt} : a = b ↔ a.1 = b.1 ∧ a.2 = b.2 := ⟨fun h => by subst h; exact ⟨rfl, rfl⟩, fun ⟨h1, h2⟩ => Prod.ext h1 h2⟩
theorem aB4 {a b : Cmt} (hm : a.1.length ≤ maxLen) (hm' : b.1.length ≤ maxLen) (hn : a.2.length ≤ maxLen) (hn' : b.2.length ≤ maxLen) : AC Try.prog 110 [xL a, xL b] ⟨.v (.bool (decide (a = b))), []⟩ := by
 have h1 := aGZ hm hm'
 have h2 := aG1 hn hn'
 by_cases he : a.1 = b.1
 · have : decide (a = b) = decide (a.2 = b.2) := by simp [aFp, he]
   rw [this]
   rw [decide_eq_true he] at h1
   refine qrf Try.func110 Try.ntmps110 Try.results110 ?_; conv => whnf
   repeat ((first | refine qz ?_ | refine qc (h1) ?_ | refine qc (h2) ?_); conv => whnf)
   exact xA rfl trivial
 · rw [decide_eq_false (fun e => he (by rw [e]))]
   rw [decide_eq_false he] at h1
   refine qrf Try.func110 Try.ntmps110 Try.results110 ?_; conv => whnf
   repeat ((first | refine qz ?_ | refine qc (h1) ?_ | refine qc (h2) ?_); conv => whnf)
   exact xA rfl trivial
theorem aDj {a b : Cmt} (hm : a.1.length ≤ maxLen) (hm' : b.1.length ≤ maxLen) (hn : a.2.length ≤ maxLen) (hn' : b.2.length ≤ maxLen) : AC Try.prog 60 [xL a, xL b] ⟨.v (.bool (decide (a = b))), []⟩ := by
 have h1 := aGW hm hm'
 have h2 := aGV hn hn'
 by_cases he : a.1 = b.1
 · have : decide (a = b) = decide (a.2 = b.2) := by simp [aFp, he]
   rw [this]
   rw [decide_eq_true he] at h1
   refine qrf Try.func60 Try.ntmps60 Try.results60 ?_; conv => whnf
   repeat ((first | refine qz ?_ | refine qc (h1) ?_ | refine qc (h2) ?_); conv => whnf)
   exact xA rfl trivial
 · rw [decide_eq_false (fun e => he (by rw [e]))]
   rw [decide_eq_false he] at h1
   refine qrf Try.func60 Try.ntmps60 Try.results60 ?_; conv => whnf
   repeat ((first | refine qz ?_ | refine qc (h1) ?_ | refine qc (h2) ?_); conv => whnf)
   exact xA rfl trivial
theorem aG2 {a b : List Cmt} (hm : a.length ≤ maxLen) (hm' : b.length ≤ maxLen) (hc : y5 maxLen a) (hc' : y5 maxLen b) : AC Try.prog 89 [.lst 2 (a.map xL), .lst 2 (b.map xL)] ⟨.v (.bool (decide (a = b))), []⟩ := by
 unfold maxLen at hm hm'
 by_cases hl : a.length = b.length
 case neg =>
  rw [decide_eq_false (fun e => hl (by rw [e]))]
  refine qrf Try.func89 Try.ntmps89 Try.results89 ?_; conv => whnf
  repeat ((refine qz ?_; conv => whnf))
  exact xA rfl trivial
 refine qrf Try.func89 Try.ntmps89 Try.results89 ?_; conv => whnf
 repeat ((refine qz ?_; conv => whnf))
 refine xu (ι := { k : Nat // k ≤ a.length ∧ Agree a b k }) (fun k => ⟨[(0, .lst 2 (a.map xL)), (1, .lst 2 (b.map xL)), (5, .v (.int .i64 (k.1 : Int)))], []⟩) (fun k => a.length - k.1) ⟨0, Nat.zero_le _, fun i h => by omega⟩ (by exact qle) ?_
 rintro ⟨k, hk, hg⟩
 dsimp only at hk hg ⊢
 conv => whnf
 by_cases hlt : k < a.length
 case neg =>
  rw [decide_eq_true (aBy hl (fun i hi => hg i (by omega)))]
  repeat ((refine qz ?_; conv => whnf))
  exact xA rfl trivial
 have hlt' : k < b.length := by omega
 have hac := aB4 (a := a[k]) (b := b[k]) (hc _ (List.getElem_mem hlt)).1 (hc' _ (List.getElem_mem hlt')).1 (hc _ (List.getElem_mem hlt)).2.1 (hc' _ (List.getElem_mem hlt')).2.1
 by_cases he : a[k] = b[k]
 · rw [decide_eq_true he] at hac
   repeat ((refine qz ?_; conv => whnf))
   refine .inl ⟨by kernel_rfl, ?_⟩
   conv => whnf
   repeat ((first | refine qz ?_ | refine qc (hac) ?_); conv => whnf)
   exact ⟨⟨k + 1, hlt, hg.snoc hlt hlt' he⟩, by exact qle, by simp; omega⟩
 · rw [decide_eq_false he] at hac
   rw [decide_eq_false (fun e => he (by subst e; rfl))]
   repeat ((refine qz ?_; conv => whnf))
   refine .inl ⟨by kernel_rfl, ?_⟩
   conv => whnf
   repeat ((first | refine qz ?_ | refine qc (hac) ?_); conv => whnf)
   exact xA rfl trivial
theorem aED {a b : List Cmt} (hm : a.length ≤ maxLen) (hm' : b.length ≤ maxLen) (hc : y5 maxLen a) (hc' : y5 maxLen b) : AC Try.prog 90 [.lst 2 (a.map xL), .lst 2 (b.map xL), .fn 60 [] []] ⟨.v (.bool (decide (a = b))), []⟩ := by
 unfold maxLen at hm hm'
 by_cases hl : a.length = b.length
 case neg =>
  rw [decide_eq_false (fun e => hl (by rw [e]))]
  refine qrf Try.func90 Try.ntmps90 Try.results90 ?_; conv => whnf
  repeat ((refine qz ?_; conv => whnf))
  exact xA rfl trivial
 refine qrf Try.func90 Try.ntmps90 Try.results90 ?_; conv => whnf
 repeat ((refine qz ?_; conv => whnf))
 refine xu (ι := { k : Nat // k ≤ a.length ∧ Agree a b k }) (fun k => ⟨[(1, .lst 2 (b.map xL)), (2, .fn 60 [] []), (15, .lst 2 (a.map xL)), (16, .v (.int .i64 (a.length : Int))), (17, .v (.int .i64 (k.1 : Int)))], []⟩) (fun k => a.length - k.1) ⟨0, Nat.zero_le _, fun i h => by omega⟩ (by exact qle) ?_
 rintro ⟨k, hk, hg⟩
 dsimp only at hk hg ⊢
 conv => whnf
 by_cases hlt : k < a.length
 case neg =>
  rw [decide_eq_true (aBy hl (fun i hi => hg i (by omega)))]
  repeat ((refine qz ?_; conv => whnf))
  exact xA rfl trivial
 have hlt' : k < b.length := by omega
 have hac := aDj (a := a[k]) (b := b[k]) (hc _ (List.getElem_mem hlt)).1 (hc' _ (List.getElem_mem hlt')).1 (hc _ (List.getElem_mem hlt)).2.1 (hc' _ (List.getElem_mem hlt')).2.1
 by_cases he : a[k] = b[k]
 · rw [decide_eq_true he] at hac
   repeat (first | (refine qz ?_; conv => whnf) | (refine qr (yQ rfl rfl rfl rfl rfl (by conv => lhs; whnf) rfl) ?_; conv => whnf) | (refine qr (jK hac rfl rfl (.inl rfl) trivial rfl rfl) ?_; conv => whnf))
   exact ⟨⟨k + 1, hlt, hg.snoc hlt hlt' he⟩, by exact qle, by simp; omega⟩
 · rw [decide_eq_false he] at hac
   rw [decide_eq_false (fun e => he (by subst e; rfl))]
   repeat (first | (refine qz ?_; conv => whnf) | (refine qr (yQ rfl rfl rfl rfl rfl (by conv => lhs; whnf) rfl) ?_; conv => whnf) | (refine qr (jK hac rfl rfl (.inl rfl) trivial rfl rfl) ?_; conv => whnf))
   exact xA rfl trivial
theorem aDC {cs : List Cmt} {l : Int} (h : 0 ≤ zk cs l) (h1 : l ≤ 1048576) : zk cs l ≤ l ∧ cs.length ≤ 1048576 ∧ y5 1048576 cs := by
 obtain ⟨k1, k2⟩ := aJb h
 refine ⟨?_, by omega, fun c hc => by obtain ⟨q1, q2, q3⟩ := k2 c hc; exact ⟨by omega, by omega, fun e he => by have := q3 e he; omega⟩⟩
 unfold zk at h ⊢
 split
 · omega
 · rename_i hn
   rw [if_neg hn] at h
   have := (aFJ h).1
   omega
end Go.Proofs.Ytdhjchdbgognbaa.AM
namespace Go.Proofs.Ytdhjchdbgognbaa.AM
open Go Go.RowKit
abbrev okN (s : ByteArray) : Bool := Nm.nameOK s.data.toList
def kE (r : Rf) : Bool := okN r.name && (decide (1 ≤ r.ver ∧ r.ver ≤ 1000000) && (if r.gone = true then decide (r.head = 0) else decide (1 ≤ r.head ∧ r.head ≤ 60)))
def rAt : List Rf → ByteArray → Nat → Int
 | [], _, _ => -1
 | y :: l, x, k => if y.name = x then k else rAt l x (k + 1)
theorem aEr {l : List Rf} {x : ByteArray} {k : Nat} (h : k < l.length) : rAt (l.drop k) x k = if l[k].name = x then (k : Int) else rAt (l.drop (k + 1)) x (k + 1) := by
 rw [List.drop_eq_getElem_cons h, rAt]
theorem kD : ∀ (l : List Rf) (x : ByteArray) (k : Nat), (rAt l x k = -1 ∧ ∀ i (h : i < l.length), l[i].name ≠ x) ∨ ∃ j, ∃ h : j < l.length, rAt l x k = ((k + j : Nat) : Int) ∧ l[j].name = x ∧ ∀ i (hi : i < j), (l[i]'(by omega)).name ≠ x
 | [], x, k => .inl ⟨rfl, fun i h => by simp at h⟩
 | y :: l, x, k => by
  unfold rAt
  by_cases e : y.name = x
  · rw [if_pos e]; exact .inr ⟨0, by simp, by simp, e, fun i h => by omega⟩
  · rw [if_neg e]
    rcases kD l x (k + 1) with ⟨h1, h2⟩ | ⟨j, hj, h1, h2, h3⟩
    · refine .inl ⟨h1, fun i h => ?_⟩
      cases i with
      | zero => exact e
      | succ i => exact h2 i (by simpa using h)
    · refine .inr ⟨j + 1, by simpa using hj, by rw [h1]; omega, h2, fun i h => ?_⟩
      cases i with
      | zero => exact e
      | succ i => exact h3 i (by omega)
theorem aEs {l : List Rf} {i : Nat} (h : i < l.length) : rAt l l[i].name 0 = (i : Int) ↔ rAt (l.take i) l[i].name 0 < 0 := by
 rcases kD (l.take i) l[i].name 0 with ⟨h1, h2⟩ | ⟨j, hj, h1, h2, h3⟩
 · rw [h1]
   refine ⟨fun _ => by omega, fun _ => ?_⟩
   rcases kD l l[i].name 0 with ⟨k1, k2⟩ | ⟨j, hj, k1, k2, k3⟩
   · exact absurd rfl (k2 i h)
   · rw [k1]
     rcases Nat.lt_trichotomy j i with q | q | q
     · exact absurd (by rw [List.getElem_take]; exact k2) (h2 j (by simp; omega))
     · omega
     · exact absurd rfl (k3 i q)
 · rw [h1]
   have hji : j < i := by simp at hj; omega
   refine ⟨fun e => ?_, fun e => by omega⟩
   rcases kD l l[i].name 0 with ⟨k1, k2⟩ | ⟨j', hj', k1, k2, k3⟩
   · omega
   · rw [k1] at e
     have : j' = i := by omega
     subst this
     exact absurd (by rw [← h2, List.getElem_take]) (k3 j hji)
theorem aCU {l : List Rf} {x : ByteArray} (h : 0 ≤ rAt l x 0) : ∃ j, ∃ hj : j < l.length, rAt l x 0 = (j : Int) ∧ l[j].name = x := by
 rcases kD l x 0 with ⟨h1, _⟩ | ⟨j, hj, h1, h2, _⟩
 · omega
 · exact ⟨j, hj, by rw [h1]; simp, h2⟩
theorem aKZ {l : List Rf} {x : ByteArray} : -1 ≤ rAt l x 0 ∧ rAt l x 0 ≤ l.length := by
 rcases kD l x 0 with ⟨h1, _⟩ | ⟨j, hj, h1, h2, _⟩ <;> rw [h1] <;> omega
def aCp (l : List Rf) (i : Nat) : Prop := ∃ h : i < l.length, kE l[i] = true ∧ rAt (l.take i) l[i].name 0 < 0
open Classical in
noncomputable def kK (l : List Rf) : Bool := decide (l.length ≤ 8 ∧ ∀ i, i < l.length → aCp l i)
theorem qW {l : List Rf} (h : ¬ (l.length ≤ 8 ∧ ∀ i, i < l.length → aCp l i)) : kK l = false := by unfold kK; simpa using h
theorem aGE {l : List Rf} (h : l.length ≤ 8 ∧ ∀ i, i < l.length → aCp l i) : kK l = true := by unfold kK; simpa using h
theorem aKE : ∀ vs w, (callFunc 75 vs).run Try.prog w = .ok (.enter 75 vs) w := zY Try.func75 (by kernel_rfl) (by kernel_rfl)
theorem aJO : ∀ vs w, (callFunc 106 vs).run Try.prog w = .ok (.enter 106 vs) w := zY Try.func106 (by kernel_rfl) (by kernel_rfl)
theorem zK {s : ByteArray} {b : Bool} (hs : s.size ≤ maxLen) (hb : okN s = b) : AC Try.prog 75 [.v (.string s)] ⟨.v (.bool b), []⟩ :=
 hb ▸ vD aKE rfl fun w S0 vs hS hv => by
  obtain ⟨u', rfl, h2⟩ := vL hv
  rw [jD h2]
  exact (aBU s w hs).mono fun e w' ⟨h1, h2⟩ => ⟨h1, by subst h2; exact Below.refl _ _⟩
theorem zX {s : ByteArray} {b : Bool} (hs : s.size ≤ maxLen) (hb : okN s = b) : AC Try.prog 106 [.v (.string s)] ⟨.v (.bool b), []⟩ :=
 hb ▸ vD aJO rfl fun w S0 vs hS hv => by
  obtain ⟨u', rfl, h2⟩ := vL hv
  rw [jD h2]
  exact (aCM s w hs).mono fun e w' ⟨h1, h2⟩ => ⟨h1, by subst h2; exact Below.refl _ _⟩
attribute [local irreducible] xO xU yD zA zJ Pre ACG
theorem aFT {x : Int} (h : 1 ≤ x) (h' : x ≤ 60) : AC Try.prog 114 [.v (.int .i64 x)] ⟨.v (.bool true), []⟩ := by
 refine qrf Try.func114 Try.ntmps114 Try.results114 ?_; conv => whnf
 repeat ((refine qz ?_; conv => whnf))
 exact xA rfl trivial
theorem aFS {x : Int} (h : ¬ (1 ≤ x ∧ x ≤ 60)) : AC Try.prog 114 [.v (.int .i64 x)] ⟨.v (.bool false), []⟩ := by
 by_cases h1 : 1 ≤ x
 · refine qrf Try.func114 Try.ntmps114 Try.results114 ?_; conv => whnf
   repeat ((refine qz ?_; conv => whnf))
   exact xA rfl trivial
 · refine qrf Try.func114 Try.ntmps114 Try.results114 ?_; conv => whnf
   repeat ((refine qz ?_; conv => whnf))
   exact xA rfl trivial
theorem aEH {l : List Rf} {x : ByteArray} (hm : l.length ≤ maxLen) : AC Try.prog 67 [.lst 4 (l.map xS), .v (.string x)] ⟨.v (.int .i64 (rAt l x 0)), []⟩ := by
 unfold maxLen at hm
 refine qrf Try.func67 Try.ntmps67 Try.results67 ?_; conv => whnf
 refine xu (ι := { k : Nat // k ≤ l.length ∧ rAt (l.drop k) x k = rAt l x 0 }) (fun k => ⟨[(0, .lst 4 (l.map xS)), (1, .v (.string x)), (5, .v (.int .i64 (k.1 : Int)))], []⟩) (fun k => l.length - k.1) ⟨0, Nat.zero_le _, rfl⟩ (by exact qle) ?_
 rintro ⟨k, hk, hd⟩
 dsimp only at hk hd ⊢
 conv => whnf
 by_cases hlt : k < l.length
 · rw [aEr hlt] at hd
   by_cases he : l[k].name = x
   · rw [if_pos he] at hd
     rw [← hd]
     repeat ((first | refine qz ?_ | refine qp (xR (wm he) rfl rfl rfl) ?_); conv => whnf)
     exact xA rfl trivial
   · rw [if_neg he] at hd
     repeat ((first | refine qz ?_ | refine qp (xR (wh he) rfl rfl rfl) ?_); conv => whnf)
     exact ⟨⟨k + 1, hlt, hd⟩, by exact qle, by simp; omega⟩
 · rw [← hd, List.drop_eq_nil_of_le (by omega)]
   repeat ((refine qz ?_; conv => whnf))
   exact xA rfl trivial
theorem aCy {r : Rf} {x : ByteArray} {b : Bool} (hb : decide (r.name = x) = b) : AC Try.prog 102 [xS r, .ptr (.v (.string x))] ⟨.v (.bool b), []⟩ := by
 by_cases h : r.name = x
 · rw [← hb, decide_eq_true h]
   refine qrf Try.func102 Try.ntmps102 Try.results102 ?_; conv => whnf
   repeat ((first | refine qz ?_ | refine qp (xR (wm h) rfl rfl rfl) ?_); conv => whnf)
   exact xA rfl trivial
 · rw [← hb, decide_eq_false h]
   refine qrf Try.func102 Try.ntmps102 Try.results102 ?_; conv => whnf
   repeat ((first | refine qz ?_ | refine qp (xR (wh h) rfl rfl rfl) ?_); conv => whnf)
   exact xA rfl trivial
theorem aFW {l : List Rf} {x : ByteArray} (hm : l.length ≤ maxLen) : AC Try.prog 101 [.lst 4 (l.map xS), .fn 102 [] [.ptr (.v (.string x))]] ⟨.v (.int .i64 (rAt l x 0)), []⟩ := by
 unfold maxLen at hm
 refine qrf Try.func101 Try.ntmps101 Try.results101 ?_; conv => whnf
 repeat ((refine qz ?_; conv => whnf))
 refine xu (ι := { k : Nat // k ≤ l.length ∧ rAt (l.drop k) x k = rAt l x 0 }) (fun k => ⟨[(0, .lst 4 (l.map xS)), (1, .fn 102 [] [.ptr (.v (.string x))]), (7, .v (.int .i64 (l.length : Int))), (8, .v (.int .i64 (k.1 : Int)))], []⟩) (fun k => l.length - k.1) ⟨0, Nat.zero_le _, rfl⟩ (by exact qle) ?_
 rintro ⟨k, hk, hd⟩
 dsimp only at hk hd ⊢
 conv => whnf
 by_cases hlt : k < l.length
 · rw [aEr hlt] at hd
   by_cases he : l[k].name = x
   · rw [if_pos he] at hd
     rw [← hd]
     repeat ((first | refine qz ?_ | refine qr (jK (aCy (r := l[k]) (decide_eq_true he)) rfl rfl (.inl rfl) trivial rfl rfl) ?_); conv => whnf)
     exact xA rfl trivial
   · rw [if_neg he] at hd
     repeat ((first | refine qz ?_ | refine qr (jK (aCy (r := l[k]) (decide_eq_false he)) rfl rfl (.inl rfl) trivial rfl rfl) ?_); conv => whnf)
     exact ⟨⟨k + 1, hlt, hd⟩, by exact qle, by simp; omega⟩
 · rw [← hd, List.drop_eq_nil_of_le (by omega)]
   repeat ((refine qz ?_; conv => whnf))
   exact xA rfl trivial
theorem aAP {l : List Rf} {x : ByteArray} (hm : l.length ≤ maxLen) : AC Try.prog 72 [.lst 4 (l.map xS), .v (.string x)] ⟨.v (.int .i64 (rAt l x 0)), []⟩ := by
 refine qrf Try.func72 Try.ntmps72 Try.results72 ?_; conv => whnf
 repeat ((first | refine qz ?_ | refine qr (aIy (y := .v _) rfl rfl rfl rfl) ?_); conv => whnf)
 refine qr (aCn [] (aFW hm) rfl rfl trivial rfl rfl trivial rfl rfl rfl (.inr ⟨⟨by simp [yH], aFs⟩, by simp⟩) rfl) ?_
 conv => whnf
 repeat ((refine qz ?_; conv => whnf))
 exact xA rfl trivial
theorem aHv {r : Rf} (h : okN r.name = false) : kE r = false := by simp only [kE, h, Bool.false_and]
theorem aHw {r : Rf} (h : ¬ (1 ≤ r.ver ∧ r.ver ≤ 1000000)) : kE r = false := by simp only [kE, decide_eq_false h, Bool.false_and, Bool.and_false]
theorem aHt {r : Rf} (hn : okN r.name = true) (hv : 1 ≤ r.ver ∧ r.ver ≤ 1000000) (hg : r.gone = true) : kE r = decide (r.head = 0) := by simp only [kE, hn, hg, decide_eq_true hv, Bool.true_and, if_true]
theorem aHu {r : Rf} (hn : okN r.name = true) (hv : 1 ≤ r.ver ∧ r.ver ≤ 1000000) (hg : r.gone = false) : kE r = decide (1 ≤ r.head ∧ r.head ≤ 60) := by
 simp only [kE, hn, hg, decide_eq_true hv, Bool.true_and]; rfl
theorem aIV {r : Rf} (hs : r.name.size ≤ maxLen) : AC Try.prog 100 [xS r] ⟨.v (.bool (kE r)), []⟩ := by
 cases hn : okN r.name with
 | false =>
  rw [aHv hn]
  refine qrf Try.func100 Try.ntmps100 Try.results100 ?_; conv => whnf
  repeat ((first | refine qz ?_ | refine qc (zX hs hn) ?_); conv => whnf)
  exact xA rfl trivial
 | true =>
  by_cases hv : 1 ≤ r.ver ∧ r.ver ≤ 1000000
  case neg =>
   rw [aHw hv]
   by_cases h1 : 1 ≤ r.ver
   · have h2 : ¬ r.ver ≤ 1000000 := fun e => hv ⟨h1, e⟩
     refine qrf Try.func100 Try.ntmps100 Try.results100 ?_; conv => whnf
     repeat ((first | refine qz ?_ | refine qc (zX hs hn) ?_); conv => whnf)
     exact xA rfl trivial
   · refine qrf Try.func100 Try.ntmps100 Try.results100 ?_; conv => whnf
     repeat ((first | refine qz ?_ | refine qc (zX hs hn) ?_); conv => whnf)
     exact xA rfl trivial
  obtain ⟨v1, v2⟩ := id hv
  cases hg : r.gone with
  | true =>
   rw [aHt hn hv hg]
   by_cases h0 : r.head = 0
   · rw [decide_eq_true h0]
     refine qrf Try.func100 Try.ntmps100 Try.results100 ?_; conv => whnf
     repeat (first | (refine qz ?_; conv => whnf) | (refine qc (zX hs hn) ?_; conv => whnf) | (rw [hg]; conv => whnf))
     exact xA rfl trivial
   · rw [decide_eq_false h0]
     refine qrf Try.func100 Try.ntmps100 Try.results100 ?_; conv => whnf
     repeat (first | (refine qz ?_; conv => whnf) | (refine qc (zX hs hn) ?_; conv => whnf) | (rw [hg]; conv => whnf))
     exact xA rfl trivial
  | false =>
   rw [aHu hn hv hg]
   by_cases h0 : 1 ≤ r.head ∧ r.head ≤ 60
   · rw [decide_eq_true h0]
     refine qrf Try.func100 Try.ntmps100 Try.results100 ?_; conv => whnf
     repeat (first | (refine qz ?_; conv => whnf) | (refine qc (zX hs hn) ?_; conv => whnf) | (rw [hg]; conv => whnf) | (refine qc (aFT h0.1 h0.2) ?_; conv => whnf))
     exact xA rfl trivial
   · rw [decide_eq_false h0]
     refine qrf Try.func100 Try.ntmps100 Try.results100 ?_; conv => whnf
     repeat (first | (refine qz ?_; conv => whnf) | (refine qc (zX hs hn) ?_; conv => whnf) | (rw [hg]; conv => whnf) | (refine qc (aFS h0) ?_; conv => whnf))
     exact xA rfl trivial
theorem aGX {l : List Rf} (hm : l.length ≤ maxLen) (hk : ∀ e ∈ l, e.name.size ≤ maxLen) : AC Try.prog 71 [.lst 4 (l.map xS)] ⟨.v (.bool (kK l)), []⟩ := by
 have hm' := hm
 unfold maxLen at hm'
 by_cases hin : l.length ≤ 8
 case neg =>
  rw [qW (fun h => hin h.1)]
  refine qrf Try.func71 Try.ntmps71 Try.results71 ?_; conv => whnf
  repeat ((refine qz ?_; conv => whnf))
  exact xA rfl trivial
 refine qrf Try.func71 Try.ntmps71 Try.results71 ?_; conv => whnf
 repeat ((refine qz ?_; conv => whnf))
 refine xu (ι := { k : Nat // k ≤ l.length ∧ ∀ i, i < k → aCp l i }) (fun k => ⟨[(0, .lst 4 (l.map xS)), (8, .lst 4 (l.map xS)), (9, .v (.int .i64 (l.length : Int))), (10, .v (.int .i64 (k.1 : Int)))], []⟩) (fun k => l.length - k.1) ⟨0, Nat.zero_le _, fun i h => by omega⟩ (by exact qle) ?_
 rintro ⟨k, hk', hd⟩
 dsimp only at hk' hd ⊢
 conv => whnf
 by_cases hlt : k < l.length
 case neg =>
  rw [aGE ⟨hin, fun i hi => hd i (by omega)⟩]
  repeat ((refine qz ?_; conv => whnf))
  exact xA rfl trivial
 have hsz := hk _ (List.getElem_mem hlt)
 have hac := aIV hsz
 have hpl := aAP (l := l.take k) (x := l[k].name) (by unfold maxLen; simp; omega)
 cases hb : kE l[k] with
 | false =>
  rw [hb] at hac
  rw [qW (fun h => by obtain ⟨_, q, _⟩ := h.2 k hlt; rw [hb] at q; cases q)]
  repeat ((first | refine qz ?_ | refine qc (hac) ?_ | refine qst ?_ | refine qdr ?_); conv => whnf)
  exact xA rfl trivial
 | true =>
  rw [hb] at hac
  by_cases hp : rAt (l.take k) l[k].name 0 < 0
  · repeat ((first | refine qz ?_ | refine qc (hac) ?_ | refine qst ?_ | refine qdr ?_ | refine qp (vg (h := k) (xs := l) (f := xS) (by omega) rfl rfl rfl) ?_ | refine qc (hpl) ?_); conv => whnf)
    exact ⟨⟨k + 1, hlt, fun i hi => by
     rcases Nat.lt_or_ge i k with h | h
     · exact hd i h
     · have : i = k := by omega
       subst this; exact ⟨hlt, hb, hp⟩⟩, by exact qle, by simp; omega⟩
  · rw [qW (fun h => by obtain ⟨_, _, q⟩ := h.2 k hlt; exact hp q)]
    repeat ((first | refine qz ?_ | refine qc (hac) ?_ | refine qst ?_ | refine qdr ?_ | refine qp (vg (h := k) (xs := l) (f := xS) (by omega) rfl rfl rfl) ?_ | refine qc (hpl) ?_); conv => whnf)
    exact xA rfl trivial
set_option maxHeartbeats 4000000 in
theorem aIT {l : List Rf} (hm : l.length ≤ maxLen) (hk : ∀ e ∈ l, e.name.size ≤ maxLen) : AC Try.prog 66 [.lst 4 (l.map xS)] ⟨.v (.bool (kK l)), []⟩ := by
 have hm' := hm
 unfold maxLen at hm'
 by_cases hin : l.length ≤ 8
 case neg =>
  rw [qW (fun h => hin h.1)]
  refine qrf Try.func66 Try.ntmps66 Try.results66 ?_; conv => whnf
  repeat ((refine qz ?_; conv => whnf))
  exact xA rfl trivial
 refine qrf Try.func66 Try.ntmps66 Try.results66 ?_; conv => whnf
 repeat ((refine qz ?_; conv => whnf))
 refine aHY (fun k : { k : Nat // k ≤ l.length ∧ ∀ i, i < k → aCp l i } => ⟨[(0, .lst 4 (l.map xS)), (3, .v (.int .i64 (k.1 : Int)))], [], []⟩) (fun k => l.length - k.1) ⟨0, Nat.zero_le _, fun i h => by omega⟩ ⟨by exact qle, trivial⟩ ?_
 rintro ⟨k, hk', hd⟩
 dsimp only at hk' hd ⊢
 by_cases hlt : k < l.length
 case neg =>
  rw [aGE ⟨hin, fun i hi => hd i (by omega)⟩]
  refine zO _ _ _ ?_
  conv => whnf
  repeat (first | (refine qz ?_; conv => whnf))
  exact xA rfl trivial
 have hsz := hk _ (List.getElem_mem hlt)
 have hpl := aEH (l := l) (x := l[k].name) hm
 have bad : (kE l[k] = true → ¬ rAt (l.take k) l[k].name 0 < 0) → kK l = false := fun q => qW (fun h => by obtain ⟨_, q1, q2⟩ := h.2 k hlt; exact q q1 q2)
 have nxt : kE l[k] = true → rAt (l.take k) l[k].name 0 < 0 → ∀ i, i < k + 1 → aCp l i := fun q1 q2 i hi => by
  rcases Nat.lt_or_ge i k with h | h
  · exact hd i h
  · have : i = k := by omega
    subst this; exact ⟨hlt, q1, q2⟩
 refine aIu ?_
 refine zO _ _ _ ?_
 conv => whnf
 repeat (first | (refine qz ?_; conv => whnf))
 refine aIu (aJL ?_)
 obtain ⟨g, hgg⟩ : ∃ g, g = l[k].gone := ⟨_, rfl⟩
 have hik : (l.map xS)[k]? = some (.agg [.v (.string l[k].name), .v (.int .i64 l[k].head), .v (.int .i64 l[k].ver), .v (.bool g)]) := by rw [List.getElem?_map, List.getElem?_eq_getElem hlt, hgg]; rfl
 refine aKe (ι := Unit) (fun _ => ⟨[(0, .lst 4 (l.map xS)), (3, .v (.int .i64 (k : Int))), (4, .optr 5 0 [] 0)], [(5, ⟨.s 68, 4, [.agg [.v (.string l[k].name), .v (.int .i64 l[k].head), .v (.int .i64 l[k].ver), .v (.bool g)]]⟩)], []⟩) ?_ (fun _ => ?_)
 · refine zO _ _ _ ?_
   conv => whnf
   repeat ((first | refine qp (aDw hik rfl rfl rfl) ?_ | refine qst ?_ | refine qz ?_); conv => whnf)
   exact ⟨(), ⟨by exact qle, trivial⟩⟩
 refine zO _ _ _ ?_
 conv => whnf
 cases hw : okN l[k].name with
 | false =>
  rw [bad (fun q => by rw [aHv hw] at q; cases q)]
  as_aux_lemma =>
   repeat ((first | refine qc (zK hsz hw) ?_ | refine qz ?_); conv => whnf)
   exact xA rfl trivial
 | true =>
  by_cases hv : 1 ≤ l[k].ver ∧ l[k].ver ≤ 1000000
  case neg =>
   rw [bad (fun q => by rw [aHw hv] at q; cases q)]
   as_aux_lemma =>
    repeat ((first | refine qc (zK hsz hw) ?_ | refine qc (qI hv) ?_ | refine qz ?_); conv => whnf)
    exact xA rfl trivial
  by_cases hp : rAt l l[k].name 0 = (k : Int)
  case neg =>
   rw [bad (fun _ q => hp ((aEs hlt).2 q))]
   as_aux_lemma =>
    repeat ((first | refine qc (zK hsz hw) ?_ | refine qc (uS hv.1 hv.2) ?_ | refine qc (hpl) ?_ | refine qz ?_); conv => whnf)
    exact xA rfl trivial
  have hp' := (aEs hlt).1 hp
  cases g with
  | true =>
   have hb := aHt hw hv hgg.symm
   by_cases h0 : l[k].head = 0
   · rw [decide_eq_true h0] at hb
     as_aux_lemma =>
      repeat ((first | refine qc (zK hsz hw) ?_ | refine qc (uS hv.1 hv.2) ?_ | refine qc (hpl) ?_ | refine qz ?_); conv => whnf)
      refine zO _ _ _ ?_
      conv => whnf
      repeat ((first | refine qp (xR (aG7 (c := ((k + 1 : Nat) : Int)) (by omega) (by omega) (by omega)) rfl rfl rfl) ?_ | refine qz ?_); conv => whnf)
      exact ⟨⟨k + 1, hlt, nxt hb hp'⟩, ⟨by exact qle, trivial⟩, by simp; omega⟩
   · rw [decide_eq_false h0] at hb
     rw [bad (fun q => by rw [hb] at q; cases q)]
     as_aux_lemma =>
      repeat ((first | refine qc (zK hsz hw) ?_ | refine qc (uS hv.1 hv.2) ?_ | refine qc (hpl) ?_ | refine qz ?_); conv => whnf)
      exact xA rfl trivial
  | false =>
   have hb := aHu hw hv hgg.symm
   by_cases h0 : 1 ≤ l[k].head ∧ l[k].head ≤ 60
   · rw [decide_eq_true h0] at hb
     as_aux_lemma =>
      repeat ((first | refine qc (zK hsz hw) ?_ | refine qc (uS hv.1 hv.2) ?_ | refine qc (hpl) ?_ | refine qc (uS h0.1 h0.2) ?_ | refine qz ?_); conv => whnf)
      refine zO _ _ _ ?_
      conv => whnf
      repeat ((first | refine qp (xR (aG7 (c := ((k + 1 : Nat) : Int)) (by omega) (by omega) (by omega)) rfl rfl rfl) ?_ | refine qz ?_); conv => whnf)
      exact ⟨⟨k + 1, hlt, nxt hb hp'⟩, ⟨by exact qle, trivial⟩, by simp; omega⟩
   · rw [decide_eq_false h0] at hb
     rw [bad (fun q => by rw [hb] at q; cases q)]
     as_aux_lemma =>
      repeat ((first | refine qc (zK hsz hw) ?_ | refine qc (uS hv.1 hv.2) ?_ | refine qc (hpl) ?_ | refine qc (qI h0) ?_ | refine qz ?_); conv => whnf)
      exact xA rfl trivial
end Go.Proofs.Ytdhjchdbgognbaa.AM
namespace Go.Proofs.Ytdhjchdbgognbaa.AM
open Go Go.RowKit
def aKx (N : Nat) (l : List Rf) : Prop := ∀ e ∈ l, e.name.size ≤ N
attribute [local irreducible] xO xU yD zA zJ Pre ACG
def uQ (l : List Rf) (x : ByteArray) : Int := match l[(rAt l x 0).toNat]? with
 | some r => if 0 ≤ rAt l x 0 ∧ r.gone = false then rAt l x 0 else -1
 | none => -1
theorem jk {l : List Rf} {x : ByteArray} (h : rAt l x 0 < 0) : uQ l x = -1 := by unfold uQ; split <;> simp; omega
theorem aAx {l : List Rf} {x : ByteArray} {j : Nat} (hj : j < l.length) (h : rAt l x 0 = (j : Int)) : uQ l x = if l[j].gone = true then -1 else (j : Int) := by
 unfold uQ
 have : l[(rAt l x 0).toNat]? = some l[j] := by rw [h]; simp [hj]
 rw [this, h]
 cases hg : l[j].gone <;> simp [hg]
theorem aG3 {l : List Rf} {x : ByteArray} (hm : l.length ≤ maxLen) : AC Try.prog 37 [.lst 4 (l.map xS), .v (.string x)] ⟨.v (.int .i64 (uQ l x)), []⟩ := by
 have h1 := aEH (l := l) (x := x) hm
 by_cases h0 : rAt l x 0 < 0
 · rw [jk h0]
   refine qrf Try.func37 Try.ntmps37 Try.results37 ?_; conv => whnf
   have hge := @aKZ l x
   have h2 : rAt l x 0 = -1 := by omega
   rw [h2] at h1
   repeat ((first | refine qz ?_ | refine qc (h1) ?_); conv => whnf)
   exact xA rfl trivial
 · obtain ⟨j, hj, e, _⟩ := aCU (by omega : 0 ≤ rAt l x 0)
   rw [aAx hj e]
   rw [e] at h1
   cases hg : l[j].gone with
   | true =>
    rw [if_pos rfl]
    refine qrf Try.func37 Try.ntmps37 Try.results37 ?_; conv => whnf
    repeat (first | (refine qz ?_; conv => whnf) | (refine qc (h1) ?_; conv => whnf) | (rw [hg]; conv => whnf))
    exact xA rfl trivial
   | false =>
    rw [if_neg (by simp)]
    refine qrf Try.func37 Try.ntmps37 Try.results37 ?_; conv => whnf
    repeat (first | (refine qz ?_; conv => whnf) | (refine qc (h1) ?_; conv => whnf) | (rw [hg]; conv => whnf))
    exact xA rfl trivial
end Go.Proofs.Ytdhjchdbgognbaa.AM
namespace Go.Proofs.Ytdhjchdbgognbaa.AM
open Go Go.RowKit
theorem yS {s : St} {Θ : Tab} {t1 t2 : Nat} {y1 y2 : Value} (h1 : s.sl t1 = .v y1) (h2 : s.sl t2 = .v y2) : qb Θ [.tmp t1, .tmp t2] ⟨.tup [.v y1, .v y2], []⟩ .ret s :=
 ⟨trivial, [], by simp, trivial, ⟨trivial, trivial, trivial⟩, ⟨_, rfl⟩, ⟨aK1 h1 trivial, aK1 h2 trivial, trivial⟩⟩
attribute [local irreducible] xO xU yD zA zJ Pre ACG
theorem aG4 {l : List Rf} {x : ByteArray} (hm : l.length ≤ maxLen) : AC Try.prog 41 [.lst 4 (l.map xS), .v (.string x)] ⟨.tup [.v (.int .i64 (rAt l x 0)), .v (.bool (decide (0 ≤ uQ l x)))], []⟩ := by
 have h1 := aAP (l := l) (x := x) hm
 by_cases h0 : rAt l x 0 < 0
 · rw [decide_eq_false (by rw [jk h0]; omega)]
   refine qrf Try.func41 Try.ntmps41 Try.results41 ?_; conv => whnf
   repeat ((first | refine qz ?_ | refine qdr ?_ | refine qc (h1) ?_); conv => whnf)
   exact yS rfl rfl
 · obtain ⟨j, hj, e, _⟩ := aCU (by omega : 0 ≤ rAt l x 0)
   have hl := aAx hj e
   rw [e] at h1 ⊢
   cases hg : l[j].gone with
   | true =>
    rw [hg, if_pos rfl] at hl
    rw [decide_eq_false (by rw [hl]; omega)]
    refine qrf Try.func41 Try.ntmps41 Try.results41 ?_; conv => whnf
    repeat (first | (refine qz ?_; conv => whnf) | (refine qdr ?_; conv => whnf) | (refine qc (h1) ?_; conv => whnf) | (rw [hg]; conv => whnf))
    exact yS rfl rfl
   | false =>
    rw [hg, if_neg (by simp)] at hl
    rw [decide_eq_true (by rw [hl]; omega)]
    refine qrf Try.func41 Try.ntmps41 Try.results41 ?_; conv => whnf
    repeat (first | (refine qz ?_; conv => whnf) | (refine qdr ?_; conv => whnf) | (refine qc (h1) ?_; conv => whnf) | (rw [hg]; conv => whnf))
    exact yS rfl rfl
end Go.Proofs.Ytdhjchdbgognbaa.AM
namespace Go.Proofs.Ytdhjchdbgognbaa.AM
open Go Go.RowKit
def jl (k : Int) : Rf := ⟨zL k, k + 1, k + 1 + 1, decide ((k + 1 + 1 + 1) % 3 = 0)⟩
def yw : Nat → Int → List Rf
 | 0, _ => []
 | n + 1, k => jl k :: yw n (k + 4)
theorem vU : ∀ (n : Nat) (k : Int), (yw n k).length = n
 | 0, _ => rfl
 | n + 1, k => by simp [yw, vU n (k + 4)]
theorem aAa : ∀ (n : Nat) (k : Int), yw (n + 1) k = yw n k ++ [jl (k + 4 * n)]
 | 0, k => by simp [yw]
 | n + 1, k => by
  rw [yw, aAa n (k + 4), yw]
  have e : k + 4 + 4 * (n : Int) = k + 4 * ((n + 1 : Nat) : Int) := by omega
  rw [e]; rfl
theorem aDL {α : Type} (l : List α) (k : Nat) (a b c d : α) : (((l.set k a).set k b).set k c).set k d = l.set k d := by simp [List.set_set]
attribute [local irreducible] xO xU yD zA zJ Pre ACG
set_option maxHeartbeats 2000000 in
theorem aFZ {l : List Rf} {k0 : Int} (hm : l.length ≤ 1048600) (h0 : 0 ≤ k0) (h1 : k0 ≤ 8388608) : ACM Try.prog 53 ⟨68, 4, l.map xS⟩ ((yw l.length k0).map xS) [.v (.int .i64 k0)] (.int .i64 (k0 + 4 * l.length)) := by
 refine aKp aAn (by kernel_rfl) Try.func53 rfl Try.ntmps53 Try.results53 (by kernel_rfl) rfl ?_ ?_
 · exact yP qx _
 conv => whnf
 refine xu (ι := { k : Nat // k ≤ l.length }) (fun k => ⟨[(0, .own 0), (1, .v (.int .i64 (k0 + 4 * (k.1 : Int)))), (5, .v (.int .i64 (k.1 : Int)))], [(0, ⟨68, 4, (yw k.1 k0 ++ l.drop k.1).map xS⟩)]⟩) (fun k => l.length - k.1) ⟨0, Nat.zero_le _⟩ (by
  refine ⟨⟨rfl, trivial⟩, .inl ⟨rfl, rfl⟩, .inl ⟨?_, rfl⟩, .inl ⟨rfl, rfl⟩, trivial⟩
  show AV.v (.int .i64 k0) = _
  simp) ?_
 rintro ⟨k, hk⟩
 dsimp only
 have hml : (yw k k0 ++ l.drop k).length = l.length := by simp [vU]; omega
 conv => whnf
 by_cases hlt : k < l.length
 · have hlt' : k < (yw k k0 ++ l.drop k).length := by omega
   have hset : (yw k k0 ++ l.drop k).set k (jl (k0 + 4 * k)) = yw (k + 1) k0 ++ l.drop (k + 1) := by
    rw [List.set_append_right _ _ (by rw [vU]; exact Nat.le_refl _), vU, Nat.sub_self, List.drop_eq_getElem_cons hlt, List.set_cons_zero, aAa, List.append_assoc]; rfl
   have hset' : ((yw k k0 ++ l.drop k).map xS).set k (xS (jl (k0 + 4 * k))) = (yw (k + 1) k0 ++ l.drop (k + 1)).map xS := by rw [← List.map_set, hset]
   generalize hX : yw k k0 ++ l.drop k = X at *
   have hX0 : k < (X.map xS).length := by simpa using hlt'
   by_cases hz : (k0 + 4 * (k : Int) + 1 + 1 + 1) % 3 = 0
   · have hdz : decide ((k0 + 4 * (k : Int) + 1 + 1 + 1) % 3 = 0) = true := decide_eq_true hz
     repeat ((first | refine qz ?_ | refine qdr ?_ | refine qc (jr (k := k0 + 4 * (k : Int)) (by omega) (by omega)) ?_ | refine qp (xR (aIt (by omega) (by omega) (by omega) (by omega) rfl) rfl rfl rfl) ?_ | refine qp (vk (by simpa using hlt') rfl rfl rfl rfl rfl) ?_ | refine qr (yQ (jS _ hlt') rfl rfl rfl rfl rfl rfl) ?_ | refine qr (yQ (aC1 (by simpa using hlt')) rfl rfl rfl rfl rfl rfl) ?_); conv => whnf)
     refine ⟨⟨k + 1, hlt⟩, ⟨⟨?_, trivial⟩, .inl ⟨rfl, rfl⟩, .inl ⟨?_, rfl⟩, .inl ⟨rfl, rfl⟩, trivial⟩, by simp; omega⟩
     · refine congrArg (fun x => some (OB.mk _ _ x)) (Eq.trans (aDL _ _ _ _ _ _) (Eq.trans ?_ hset'))
       show _ = List.set _ k (xS (jl (k0 + 4 * k)))
       unfold jl; rw [hdz]; rfl
     · show AV.v (.int .i64 (k0 + 4 * k + 1 + 1 + 1 + 1)) = _
       congr 2
       simp; omega
   · have hdz : decide ((k0 + 4 * (k : Int) + 1 + 1 + 1) % 3 = 0) = false := decide_eq_false hz
     repeat ((first | refine qz ?_ | refine qdr ?_ | refine qc (jr (k := k0 + 4 * (k : Int)) (by omega) (by omega)) ?_ | refine qp (xR (aIt (by omega) (by omega) (by omega) (by omega) rfl) rfl rfl rfl) ?_ | refine qp (vk (by simpa using hlt') rfl rfl rfl rfl rfl) ?_ | refine qr (yQ (jS _ hlt') rfl rfl rfl rfl rfl rfl) ?_ | refine qr (yQ (aC1 (by simpa using hlt')) rfl rfl rfl rfl rfl rfl) ?_); conv => whnf)
     refine ⟨⟨k + 1, hlt⟩, ⟨⟨?_, trivial⟩, .inl ⟨rfl, rfl⟩, .inl ⟨?_, rfl⟩, .inl ⟨rfl, rfl⟩, trivial⟩, by simp; omega⟩
     · refine congrArg (fun x => some (OB.mk _ _ x)) (Eq.trans (aDL _ _ _ _ _ _) (Eq.trans ?_ hset'))
       show _ = List.set _ k (xS (jl (k0 + 4 * k)))
       unfold jl; rw [hdz]; rfl
     · show AV.v (.int .i64 (k0 + 4 * k + 1 + 1 + 1 + 1)) = _
       congr 2
       simp; omega
 · have hkk : k = l.length := by omega
   subst hkk
   repeat (first | (refine qz ?_; conv => whnf) | (refine qdr ?_; conv => whnf) | (rw [hml]))
   exact aCW rfl (by show some (OB.mk _ _ _) = _; simp)
end Go.Proofs.Ytdhjchdbgognbaa.AM
