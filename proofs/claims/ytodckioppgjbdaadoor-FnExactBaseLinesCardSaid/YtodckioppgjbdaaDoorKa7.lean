/- Texts of the machine over data, folded. -/
import Derived.Test.YtodckioppgjbdaaDoorKa6
import Derived.Test.YtodckioppgjbdaaDoorKa5
import Derived.Laws.StructEq
set_option linter.unusedVariables false
set_option maxRecDepth 100000
set_option linter.unusedSimpArgs false
namespace Go.Proofs.YtodckioppgjbdaaDoor.AM
open Go Go.RowKit Go.ChangeShapes Go.WideShapes Go.Deep
section
variable {H : Type} {enc : TypeId × Value → H} {P : Program} {w : World} {base : Nat} {spare : Nat → Bool} {held : Bool}
theorem aB1 {t e : TypeId} {A : Option Addr} {n c : Nat} {d : DataW H} {p : List MemPlace} (ht : P.underlying t = some (.slice e)) (h : DataW.Trod enc P w base spare held t (.slice A n c) d p) : n ≤ c ∧ c ≤ maxLen := by
 obtain ⟨fuel, hf⟩ := h
 rcases open_slice ht hf with ⟨hcs, _⟩ | ⟨a, len, cap, m, n', D, Pl, hcs, hb, hl, hm, _⟩
 · simp [Value.cells] at hcs; obtain ⟨rfl, rfl, rfl⟩ := hcs; exact ⟨Nat.le_refl _, Nat.zero_le _⟩
 · simp [Value.cells] at hcs; obtain ⟨rfl, rfl, rfl⟩ := hcs; exact ⟨hl, hm⟩
end
section
variable {w : World} {hp : Nat → Option OB} {B : Nat → Nat} {V : Nat → Value}
def InW (w : World) : Nat → Prop := fun b => b < w.heap.size
theorem aKj {sz : Nat} {A : Option Addr} {n : Nat} {xs : List Value} (h : Rd w sz A n xs) (hn : 0 < n) : ∃ b off, A = some ⟨b, off, none⟩ ∧ InW w b ∧ ∀ j u, xs[j]? = some u → w.cell? ⟨b, off + j, none⟩ = some u := by
 obtain ⟨b, off, h1, h2, h3⟩ := h.2 hn
 exact ⟨b, off, h1, h2, h3⟩
theorem aJD {A : Option Addr} {n c : Nat} {es : List Ent} (hc : n ≤ c ∧ c ≤ maxLen) (h : Rd w 2 A n (yA es)) : RV (InW w) w hp B V (.lst 2 (es.map yT)) (.slice A n c) := by
 have hl := h.len
 unfold RV; unfold RA
 refine ⟨A, c, by rw [List.length_map, hl], by rw [List.length_map, hl]; exact hc.1, hc.2, aFT _, by omega, ?_⟩
 rcases Nat.eq_zero_or_pos n with h0 | h0
 · exact .inl (by rw [List.map_eq_nil_iff]; exact List.eq_nil_of_length_eq_zero (by omega))
 · obtain ⟨b, off, h1, h2, h3⟩ := aKj h h0
   exact .inr ⟨b, off, yA es, h1, h2, qG.2 rfl, h3⟩
theorem rvs_nil : RVs (InW w) w hp B V [] [] := by unfold RVs; rfl
theorem rvs_cons {x : AV} {xs : List AV} {u : Value} {us : List Value} (h : RV (InW w) w hp B V x u) (r : RVs (InW w) w hp B V xs us) : RVs (InW w) w hp B V (x :: xs) (u :: us) := by
 unfold RVs; exact ⟨u, us, rfl, h, r⟩
theorem law_calls {P : Program} {f : FuncId} {args : List AV} {vs : List Value} {r : Value} (h : AC P f args ⟨.v r, []⟩) (hv : RVs (InW w) w (fun _ => none) (fun _ => 0) (fun _ => undef) args vs) (hG : ∀ g y, GT g = some y → RG (InW w) w g y := by intro g y e; cases e) : Calls P f vs.toArray w fun e w' => e = .returned r ∧ Below w.heap.size w w' :=
 (h.2 w (InW w) (fun _ => 0) (fun _ => undef) (fun _ => Fa) vs (fun b hb => hb) hG (vz (fun _ => rfl)) (qm (fun _ => rfl) hv)).mono fun e w' ⟨v, S, B, V, T, T1, h1, h2, _, _, h5, _⟩ => by
  unfold RV at h5
  exact ⟨by rw [h1, h5.1], h2.below (fun g ⟨l, ob, e, _⟩ => by cases e)⟩
end
end Go.Proofs.YtodckioppgjbdaaDoor.AM
namespace Go.Proofs.YtodckioppgjbdaaDoor.AM
open Go Go.RowKit
def szF {α : Type} (g : α → Nat) : List α → Int → Int
 | [], l => l
 | e :: es, l => if l - g e < 0 then -1 else szF g es (l - g e)
def szL {α : Type} (g : α → Nat) (es : List α) (l : Int) : Int := if l - es.length < 0 then -1 else szF g es (l - es.length)
theorem aCQ {α : Type} {g : α → Nat} : ∀ {es : List α} {l : Int}, 0 ≤ szF g es l → szF g es l ≤ l ∧ ∀ e ∈ es, (g e : Int) ≤ l
 | [], l, h => ⟨Int.le_refl _, by simp⟩
 | e :: es, l, h => by
  unfold szF at h ⊢
  split at h
  · omega
  · rename_i hn
    rw [if_neg hn]
    obtain ⟨h1, h2⟩ := aCQ h
    refine ⟨by omega, fun x hx => ?_⟩
    rcases List.mem_cons.1 hx with rfl | hx
    · omega
    · have := h2 x hx; omega
theorem aHb {α : Type} {g : α → Nat} {es : List α} {l : Int} (h : 0 ≤ szL g es l) : szL g es l ≤ l ∧ (es.length : Int) ≤ l ∧ ∀ e ∈ es, (g e : Int) ≤ l := by
 unfold szL at h ⊢
 split at h
 · omega
 · rename_i hn
   rw [if_neg hn]
   obtain ⟨h1, h2⟩ := aCQ h
   exact ⟨by omega, by omega, fun e he => by have := h2 e he; omega⟩
abbrev eSz (e : Ent) : Nat := e.1.size
attribute [local irreducible] xI xJ xL yF yH Pre ACG
theorem aBd {e : Ent} {l : Int} (hk : e.1.size ≤ maxLen) (h0 : 0 ≤ l) (h1 : l ≤ 1048576) : AC Tryd.prog 47 [yT e, .v (.int .i64 l)] ⟨.v (.int .i64 (if l - e.1.size < 0 then -1 else l - e.1.size)), []⟩ := by
 unfold maxLen at hk
 by_cases hn : l - e.1.size < 0
 · rw [if_pos hn]
   refine qrf Tryd.func47 Tryd.ntmps47 Tryd.results47 ?_; conv => whnf
   repeat ((refine qz ?_; conv => whnf))
   exact xA rfl trivial
 · rw [if_neg hn]
   refine qrf Tryd.func47 Tryd.ntmps47 Tryd.results47 ?_; conv => whnf
   repeat ((refine qz ?_; conv => whnf))
   exact xA rfl trivial
theorem aEm {α : Type} {g : α → Nat} {es : List α} {k : Nat} {l : Int} (h : k < es.length) : szF g (es.drop k) l = if l - g es[k] < 0 then -1 else szF g (es.drop (k + 1)) (l - g es[k]) := by
 rw [List.drop_eq_getElem_cons h, szF]
theorem aBA {es : List Ent} {l : Int} (hm : es.length ≤ maxLen) (hk : ∀ e ∈ es, e.1.size ≤ maxLen) (h0 : 0 ≤ l) (h1 : l ≤ 1048576) : AC Tryd.prog 10 [.lst 2 (es.map yT), .v (.int .i64 l)] ⟨.v (.int .i64 (szL eSz es l)), []⟩ := by
 unfold maxLen at hm
 by_cases hn : l - es.length < 0
 · rw [szL, if_pos hn]
   refine qrf Tryd.func10 Tryd.ntmps10 Tryd.results10 ?_; conv => whnf
   repeat ((refine qz ?_; conv => whnf))
   exact xA rfl trivial
 · rw [szL, if_neg hn]
   refine qrf Tryd.func10 Tryd.ntmps10 Tryd.results10 ?_; conv => whnf
   repeat ((refine qz ?_; conv => whnf))
   refine xX (ι := { p : Nat × Int // p.1 ≤ es.length ∧ 0 ≤ p.2 ∧ p.2 ≤ l ∧ szF eSz (es.drop p.1) p.2 = szF eSz es (l - es.length) }) (fun p => ⟨[(0, .lst 2 (es.map yT)), (1, .v (.int .i64 p.1.2)), (5, .v (.int .i64 (p.1.1 : Int)))], []⟩) (fun p => es.length - p.1.1) ⟨(0, l - es.length), by simp, by omega, by omega, rfl⟩ (by exact qle) ?_
   rintro ⟨⟨k, cur⟩, hkl, hc0, hc1, hsz⟩
   simp only at hkl hc0 hc1 hsz ⊢
   conv => whnf
   by_cases hlt : k < es.length
   · have hd := aEm (g := eSz) (l := cur) hlt
     rw [hsz] at hd
     by_cases hneg : cur - (es[k]).1.size < 0
     · rw [if_pos hneg] at hd
       rw [hd]
       repeat (first | (refine qz ?_; conv => whnf) | (refine qp (wJ (aBd (hk _ (List.getElem_mem hlt)) (by omega) (by omega)) rfl (.inl rfl) trivial rfl rfl) ?_; rw [if_pos hneg]; conv => whnf))
       exact xA rfl trivial
     · rw [if_neg hneg] at hd
       repeat (first | (refine qz ?_; conv => whnf) | (refine qp (wJ (aBd (hk _ (List.getElem_mem hlt)) (by omega) (by omega)) rfl (.inl rfl) trivial rfl rfl) ?_; rw [if_neg hneg]; conv => whnf))
       exact ⟨⟨(k + 1, cur - (es[k]).1.size), by simp; omega, by omega, by omega, hd.symm⟩, by exact qle, by simp; omega⟩
   · have hkk : k = es.length := by omega
     rw [hkk, List.drop_length] at hsz
     rw [← hsz]
     repeat ((refine qz ?_; conv => whnf))
     exact xA rfl trivial
end Go.Proofs.YtodckioppgjbdaaDoor.AM
namespace Go.Proofs.YtodckioppgjbdaaDoor.AM
open Go Go.RowKit
section
variable {P : Program} {t : TypeId} {x y : Operand} {a b : ByteArray}
theorem aIb (h : a ≠ b) : yj P .neq t x y (.string a) (.string b) (.bool true) := aBh fun w => by simp [Op.stringOp, kP, h]
theorem aAf (h : a = b) : yj P .neq t x y (.string a) (.string b) (.bool false) := aBh fun w => by simp [Op.stringOp, h]
theorem aC0 (h : a = b) : yj P .eql t x y (.string a) (.string b) (.bool true) := aBh fun w => by simp [Op.stringOp, h]
theorem aCZ (h : a ≠ b) : yj P .eql t x y (.string a) (.string b) (.bool false) := aBh fun w => by simp [Op.stringOp, kP, h]
end
attribute [local irreducible] xI xJ xL yF yH Pre ACG
theorem aDn {l : List ByteArray} (hm : l.length ≤ maxLen) : AC Tryd.prog 37 [.lst 1 (l.map yB), .lst 1 (l.map yB)] ⟨.v (.bool true), []⟩ := by
 unfold maxLen at hm
 refine qrf Tryd.func37 Tryd.ntmps37 Tryd.results37 ?_; conv => whnf
 repeat ((refine qz ?_; conv => whnf))
 refine xX (ι := { k : Nat // k ≤ l.length }) (fun k => ⟨[(0, .lst 1 (l.map yB)), (1, .lst 1 (l.map yB)), (5, .v (.int .i64 (k.1 : Int)))], []⟩) (fun k => l.length - k.1) ⟨0, Nat.zero_le _⟩ (by exact qle) ?_
 rintro ⟨k, hk⟩
 dsimp only
 conv => whnf
 by_cases hlt : k < l.length
 · repeat ((refine qz ?_; conv => whnf))
   refine .inl ⟨by kernel_rfl, ?_⟩
   conv => whnf
   repeat ((first | refine qz ?_ | refine qp (xk (aAf rfl) rfl rfl rfl) ?_); conv => whnf)
   exact ⟨⟨k + 1, hlt⟩, by exact qle, by simp; omega⟩
 · repeat ((refine qz ?_; conv => whnf))
   exact xA rfl trivial
def yQ : Nat → Int → List ByteArray
 | 0, _ => []
 | n + 1, k => zn k :: yQ n (k + 1)
theorem zf : ∀ (n : Nat) (k : Int), (yQ n k).length = n
 | 0, _ => rfl
 | n + 1, k => by simp [yQ, zf n (k + 1)]
theorem aBL : ∀ (n : Nat) (k0 : Int) (k : Nat) (h : k < n), (yQ n k0)[k]'(by rw [zf]; exact h) = zn (k0 + k)
 | n + 1, k0, 0, h => by simp [yQ]
 | n + 1, k0, k + 1, h => by
  have := aBL n (k0 + 1) k (by omega)
  simp only [yQ, List.getElem_cons_succ]
  rw [this]; congr 1; omega
theorem aAU : ∀ (n : Nat) (k : Int), yQ (n + 1) k = yQ n k ++ [zn (k + n)]
 | 0, k => by simp [yQ]
 | n + 1, k => by
  rw [yQ, aAU n (k + 1), yQ]
  have e : k + 1 + (n : Int) = k + ((n + 1 : Nat) : Int) := by omega
  rw [e]; rfl
theorem aCX {l : List ByteArray} {k0 : Int} (hm : l.length ≤ 1048600) (h0 : 0 ≤ k0) (h1 : k0 ≤ 8388608) : ACM Tryd.prog 40 ⟨9, 1, l.map yB⟩ ((yQ l.length k0).map yB) [.v (.int .i64 k0)] (.int .i64 (k0 + l.length)) := by
 refine aI5 qJ (by kernel_rfl) Tryd.func40 rfl Tryd.ntmps40 Tryd.results40 (by kernel_rfl) rfl ?_ ?_
 · exact yL qQ _
 conv => whnf
 refine xX (ι := { k : Nat // k ≤ l.length }) (fun k => ⟨[(0, .own 0), (1, .v (.int .i64 (k0 + (k.1 : Int)))), (5, .v (.int .i64 (k.1 : Int)))], [(0, ⟨9, 1, (yQ k.1 k0 ++ l.drop k.1).map yB⟩)]⟩) (fun k => l.length - k.1) ⟨0, Nat.zero_le _⟩ (by
  refine ⟨⟨rfl, trivial⟩, .inl ⟨rfl, rfl⟩, .inl ⟨?_, rfl⟩, .inl ⟨rfl, rfl⟩, trivial⟩
  show AV.v (.int .i64 k0) = _
  simp) ?_
 rintro ⟨k, hk⟩
 dsimp only
 have hml : (yQ k k0 ++ l.drop k).length = l.length := by simp [zf]; omega
 conv => whnf
 by_cases hlt : k < l.length
 · have hlt' : k < (yQ k k0 ++ l.drop k).length := by omega
   have hset : (yQ k k0 ++ l.drop k).set k (zn (k0 + k)) = yQ (k + 1) k0 ++ l.drop (k + 1) := by
    rw [List.set_append_right _ _ (by rw [zf]; exact Nat.le_refl _), zf, Nat.sub_self, List.drop_eq_getElem_cons hlt, List.set_cons_zero, aAU, List.append_assoc]; rfl
   have hset' : ((yQ k k0 ++ l.drop k).map yB).set k (yB (zn (k0 + k))) = (yQ (k + 1) k0 ++ l.drop (k + 1)).map yB := by rw [← List.map_set, hset]
   repeat ((first | refine qz ?_ | refine qp (wJ (vO (by omega) (by omega)) rfl (.inl rfl) trivial rfl rfl) ?_ | refine qp (uT (by simpa using hlt') rfl rfl rfl rfl rfl) ?_ | refine aA6 (yh (wO _ hlt') rfl rfl rfl rfl rfl rfl) rfl rfl (fun e => by cases e) ?_); conv => whnf)
   refine ⟨⟨k + 1, hlt⟩, ⟨⟨?_, trivial⟩, .inl ⟨rfl, rfl⟩, .inl ⟨?_, rfl⟩, .inl ⟨rfl, rfl⟩, trivial⟩, by simp; omega⟩
   · exact congrArg (fun x => some (OB.mk _ _ x)) hset'
   · show AV.v (.int .i64 (k0 + k + 1)) = _
     congr 2
     simp; omega
 · have hkk : k = l.length := by omega
   subst hkk
   repeat (first | (refine qz ?_; conv => whnf) | (rw [hml]))
   exact aA5 rfl (by show some (OB.mk _ _ _) = _; simp)
theorem aCU {n : Nat} {k0 : Int} (hm : n ≤ 1048600) (h0 : 0 ≤ k0) (h1 : k0 ≤ 8388608) : AC Tryd.prog 41 [.lst 1 ((yQ n k0).map yB), .v (.int .i64 k0)] ⟨.v (.int .i64 (k0 + n)), []⟩ := by
 have hml := zf n k0
 refine qrf Tryd.func41 Tryd.ntmps41 Tryd.results41 ?_; conv => whnf
 refine xX (ι := { k : Nat // k ≤ n }) (fun k => ⟨[(0, .lst 1 ((yQ n k0).map yB)), (1, .v (.int .i64 (k0 + (k.1 : Int)))), (5, .v (.int .i64 (k.1 : Int)))], []⟩) (fun k => n - k.1) ⟨0, Nat.zero_le _⟩ (by
  refine ⟨trivial, .inl ⟨rfl, rfl⟩, .inl ⟨?_, rfl⟩, .inl ⟨rfl, rfl⟩, trivial⟩
  show AV.v (.int .i64 k0) = _
  simp) ?_
 rintro ⟨k, hk⟩
 dsimp only
 conv => whnf
 by_cases hlt : k < n
 · have hlt' : k < (yQ n k0).length := by omega
   have hg := aBL n k0 k hlt
   repeat ((refine qz ?_; conv => whnf))
   refine .inl ⟨by kernel_rfl, ?_⟩
   conv => whnf
   repeat ((first | refine qz ?_ | refine qp (wJ (vO (by omega) (by omega)) rfl (.inl rfl) trivial rfl rfl) ?_ | refine qp (xk (aAf hg) rfl rfl rfl) ?_); conv => whnf)
   refine ⟨⟨k + 1, hlt⟩, ⟨trivial, .inl ⟨rfl, rfl⟩, .inl ⟨?_, rfl⟩, .inl ⟨rfl, rfl⟩, trivial⟩, by simp; omega⟩
   show AV.v (.int .i64 (k0 + k + 1)) = _
   congr 2
   simp; omega
 · have hkk : k = n := by omega
   subst hkk
   repeat (first | (refine qz ?_; conv => whnf) | (rw [hml]))
   exact xA rfl trivial
end Go.Proofs.YtodckioppgjbdaaDoor.AM
namespace Go.Proofs.YtodckioppgjbdaaDoor
open Go.RowKit
def aJQ (e : TypeId) (r : List Edt × Int) (w : World) (e' : Ending) (w' : World) : Prop := ∃ v, e' = .returned (.tuple #[v, .int .i64 r.2]) ∧ w'.ownsRow w.heap.size e 3 v r.1.length (aIY r.1) ∧ Below w.heap.size w w'
theorem aJQ.mk {e : TypeId} {r : List Edt × Int} {l : List Edt} {c : Int} {v : Value} {w w' : World} (h : r = (l, c)) (ho : w'.ownsRow w.heap.size e 3 v l.length (aIY l)) (hb : Below w.heap.size w w') : aJQ e r w (.returned (.tuple #[v, .int .i64 c])) w' := ⟨v, by rw [h], by rw [h]; exact ho, hb⟩
end Go.Proofs.YtodckioppgjbdaaDoor
namespace Go.Proofs.YtodckioppgjbdaaDoor.AM
open Go Go.RowKit
attribute [local irreducible] xI xJ xL yF yH Pre ACG
theorem kZ {α : Type} (l : List α) (z : α) (k : Nat) (h : k < l.length) : (l.take k ++ List.replicate (l.length - k) z).set k l[k] = l.take (k + 1) ++ List.replicate (l.length - (k + 1)) z := by
 have h1 : l.length - k = (l.length - (k + 1)) + 1 := by omega
 rw [h1, List.replicate_succ, List.set_append_right _ _ (by simp; omega), List.take_succ_eq_append_getElem h, List.append_assoc]
 have : k - (l.take k).length = 0 := by simp; omega
 rw [this]; rfl
end Go.Proofs.YtodckioppgjbdaaDoor.AM
namespace Go.Proofs.YtodckioppgjbdaaDoor.AM
open Go Go.RowKit
abbrev Cmt := List Int × List Ent
def xP (c : Cmt) : AV := .agg [.lst 1 (c.1.map yN), .lst 2 (c.2.map yT)]
theorem aI8 (cs : List Cmt) : ∀ x ∈ cs.map xP, asz x = 2 := fun x hx => by obtain ⟨e, _, rfl⟩ := List.mem_map.1 hx; rfl
theorem aI9 (cs : List Int) : ∀ x ∈ cs.map yN, asz x = 1 := fun x hx => by obtain ⟨e, _, rfl⟩ := List.mem_map.1 hx; rfl
theorem aBX (e : Int) : xu (yN e) := by unfold yN; simp [xu]
def szI (n : Nat) (l : Int) : Int := if l - n < 0 then -1 else l - n
def szC (c : Cmt) (l : Int) : Int := if szI c.1.length l < 0 then -1 else if szL eSz c.2 (szI c.1.length l) < 0 then -1 else szL eSz c.2 (szI c.1.length l)
def szG {α : Type} (g : α → Int → Int) : List α → Int → Int
 | [], l => l
 | e :: es, l => if g e l < 0 then -1 else szG g es (g e l)
def zW (cs : List Cmt) (l : Int) : Int := if l - cs.length < 0 then -1 else szG szC cs (l - cs.length)
theorem aHa {c : Cmt} {l : Int} (h : 0 ≤ szC c l) : szC c l ≤ l ∧ (c.1.length : Int) ≤ l ∧ (c.2.length : Int) ≤ l ∧ ∀ e ∈ c.2, (e.1.size : Int) ≤ l := by
 unfold szC at h ⊢
 by_cases h1 : szI c.1.length l < 0
 · rw [if_pos h1] at h; omega
 · rw [if_neg h1] at h ⊢
   by_cases h2 : szL eSz c.2 (szI c.1.length l) < 0
   · rw [if_pos h2] at h; omega
   · rw [if_neg h2] at h ⊢
     obtain ⟨k1, k2, k3⟩ := aHb h
     have h3 : szI c.1.length l ≤ l ∧ (c.1.length : Int) ≤ l := by unfold szI at h1 ⊢; split at h1 <;> split <;> omega
     exact ⟨by omega, h3.2, by omega, fun e he => by have : (e.1.size : Int) ≤ _ := k3 e he; omega⟩
theorem aEn : ∀ {es : List Cmt} {l : Int}, 0 ≤ szG szC es l → szG szC es l ≤ l ∧ ∀ c ∈ es, (c.1.length : Int) ≤ l ∧ (c.2.length : Int) ≤ l ∧ ∀ e ∈ c.2, (e.1.size : Int) ≤ l
 | [], l, h => ⟨Int.le_refl _, by simp⟩
 | c :: cs, l, h => by
  unfold szG at h ⊢
  split at h
  · omega
  · rename_i hn
    rw [if_neg hn]
    obtain ⟨h1, h2⟩ := aEn h
    obtain ⟨k1, k2⟩ := aHa (by omega : 0 ≤ szC c l)
    refine ⟨by omega, fun x hx => ?_⟩
    rcases List.mem_cons.1 hx with rfl | hx
    · exact k2
    · obtain ⟨q1, q2, q3⟩ := h2 x hx
      exact ⟨by omega, by omega, fun e he => by have := q3 e he; omega⟩
theorem aIS {es : List Cmt} {k : Nat} {l : Int} (h : k < es.length) : szG szC (es.drop k) l = if szC es[k] l < 0 then -1 else szG szC (es.drop (k + 1)) (szC es[k] l) := by
 rw [List.drop_eq_getElem_cons h, szG]
theorem aJI {cs : List Cmt} {l : Int} (h : 0 ≤ zW cs l) : (cs.length : Int) ≤ l ∧ ∀ c ∈ cs, (c.1.length : Int) ≤ l ∧ (c.2.length : Int) ≤ l ∧ ∀ e ∈ c.2, (e.1.size : Int) ≤ l := by
 unfold zW at h
 split at h
 · omega
 · rename_i hn
   obtain ⟨h1, h2⟩ := aEn h
   exact ⟨by omega, fun c hc => by obtain ⟨q1, q2, q3⟩ := h2 c hc; exact ⟨by omega, by omega, fun e he => by have := q3 e he; omega⟩⟩
theorem aDM {P : Program} {Θ : Tab} {s : St} {d : Option Tmp} {ty : TypeId} {pos : String} {after : Array Edge} {g : Option (Nat × Bool)} {t : TypeId} {x y : Operand} {l l' i c : Nat} {p : List Nat} {ob ob' : OB} {q z : AV} (hq : ob.xs[i]? = some q) (hx : s.ev x = .optr l i p c) (ho : s.hp l = some ob) (hg : xK q p 0 = some (z, c)) (hs : ((Θ.look t).known && (Nat.beq (asz z) (Θ.look t).size && Nat.beq 1 (asz z))) = true) (hy : s.ev y = .own l') (ho' : s.hp l' = some ob') (hn : Nat.beq l l' = false) (hop : ob.e.open_ = true := by rfl) (hsh : ob'.e.shut = true := by rfl) (hok : okL l' = true := by rfl) (hc : cOK y = true := by rfl) :
 Pre P Θ ⟨d, .store t x y, ty, pos, after, g⟩ s ⟨.any, some fun s' => (s'.frz l').set l (some ⟨.s (ob.e.typ.getD 0), ob.sz, ob.xs.set i (zV q p (.lst ob'.sz ob'.xs))⟩)⟩ := by
 simp only [Bool.and_eq_true] at hs
 have hd : s.dat (s.ev y) = .lst ob'.sz ob'.xs := by rw [hy]; simp [St.dat, ho', hsh]
 have hown : yD (s.ev y) = [l'] := by rw [hy]; rfl
 have hda : xE s (s.ev y) = true := by rw [hy]; simp [xE, ho', hsh]
 obtain ⟨t0, he⟩ : ∃ t0, ob.e = .s t0 ∨ ob.e = .z t0 := by
  cases h : ob.e with
  | s t0 => exact ⟨t0, .inl rfl⟩
  | z t0 => exact ⟨t0, .inr rfl⟩
  | _ => rw [h] at hop; cases hop
 have ht : ob.e.typ.getD 0 = t0 := by rcases he with he | he <;> rw [he] <;> rfl
 have hne : l ≠ l' := fun e => by rw [e] at hn; simp at hn
 refine ⟨uF hc, hs.1, l, i, p, c, ob, hx, ho, .inl ⟨t0, q, z, he, hq, hg, Nat.eq_of_beq_eq_true hs.2.1, by rw [hd]; exact Nat.eq_of_beq_eq_true hs.2.2, hda, by rw [hown]; simpa using hne, by rw [hown]; simp [hok], ?_⟩⟩
 rw [hd, hown, ht]; rfl
theorem aCc {s : St} {a t l : Nat} {ob : OB} {x : AV} {Θ : Tab} (h1 : s.sl a = .optr l 0 [] 0) (ho : s.hp l = some ob) (hx : ob.xs[0]? = some x) (hk : ((Θ.look t).known && (Bool.xor (zN x) (Θ.look t).isAgg).not && Nat.beq (asz x) (Θ.look t).size) = true) (hd : (match x with | .v _ | .agg _ | .lst _ _ | .any => True | _ => False)) (hop : ob.e.open_ = true := by rfl) :
 aBP Θ [.cell a t] ⟨x, []⟩ .ret s := by
 have hr : rvA s (.cell a t) = x := by
  simp only [rvA, h1, ho, hop, hx, cond_true, Option.getD_some]
 simp only [Bool.and_eq_true] at hk
 refine ⟨trivial, [], by simp, trivial, ⟨⟨hk.1.1, by rw [hr]; exact xor_not hk.1.2, by rw [hr]; exact Nat.eq_of_beq_eq_true hk.2, .inl ⟨l, ob, x, h1, ho, .inl ⟨hop, hx⟩⟩⟩, trivial⟩, trivial, ⟨.inl ?_, trivial⟩⟩
 rw [hr]
 cases x <;> first | exact ⟨rfl, rfl⟩ | exact hd.elim
attribute [local irreducible] xI xJ xL yF yH Pre ACG
theorem aAD {es : List Int} {l : Int} (hm : es.length ≤ maxLen) (h0 : 0 ≤ l) (h1 : l ≤ 1048576) : AC Tryd.prog 153 [.lst 1 (es.map yN), .v (.int .i64 l)] ⟨.v (.int .i64 (szI es.length l)), []⟩ := by
 unfold maxLen at hm
 unfold szI
 by_cases hn : l - es.length < 0
 · rw [if_pos hn]
   refine qrf Tryd.func153 Tryd.ntmps153 Tryd.results153 ?_; conv => whnf
   repeat ((refine qz ?_; conv => whnf))
   exact xA rfl trivial
 · rw [if_neg hn]
   refine qrf Tryd.func153 Tryd.ntmps153 Tryd.results153 ?_; conv => whnf
   repeat ((refine qz ?_; conv => whnf))
   exact xA rfl trivial
theorem aAz {c : Cmt} {l : Int} (hm : c.1.length ≤ maxLen) (hm2 : c.2.length ≤ maxLen) (hk : ∀ e ∈ c.2, e.1.size ≤ maxLen) (h0 : 0 ≤ l) (h1 : l ≤ 1048576) : AC Tryd.prog 124 [xP c, .v (.int .i64 l)] ⟨.v (.int .i64 (szC c l)), []⟩ := by
 unfold szC
 by_cases ha : szI c.1.length l < 0
 · rw [if_pos ha]
   refine qrf Tryd.func124 Tryd.ntmps124 Tryd.results124 ?_; conv => whnf
   repeat ((first | refine qz ?_ | refine qc (aAD hm h0 h1) ?_); conv => whnf)
   exact xA rfl trivial
 · rw [if_neg ha]
   have hb : szI c.1.length l ≤ 1048576 := by unfold szI at ha ⊢; split <;> omega
   by_cases hn : szL eSz c.2 (szI c.1.length l) < 0
   · rw [if_pos hn]
     refine qrf Tryd.func124 Tryd.ntmps124 Tryd.results124 ?_; conv => whnf
     repeat ((first | refine qz ?_ | refine qc (aAD hm h0 h1) ?_ | refine qc (aBA hm2 hk (by omega) hb) ?_); conv => whnf)
     exact xA rfl trivial
   · rw [if_neg hn]
     refine qrf Tryd.func124 Tryd.ntmps124 Tryd.results124 ?_; conv => whnf
     repeat ((first | refine qz ?_ | refine qc (aAD hm h0 h1) ?_ | refine qc (aBA hm2 hk (by omega) hb) ?_); conv => whnf)
     exact xA rfl trivial
theorem aDt {es : List Cmt} {l : Int} (hm : es.length ≤ maxLen) (hc : ∀ c ∈ es, c.1.length ≤ maxLen ∧ c.2.length ≤ maxLen ∧ ∀ e ∈ c.2, e.1.size ≤ maxLen) (h0 : 0 ≤ l) (h1 : l ≤ 1048576) : AC Tryd.prog 75 [.lst 2 (es.map xP), .v (.int .i64 l)] ⟨.v (.int .i64 (zW es l)), []⟩ := by
 unfold maxLen at hm
 by_cases hn : l - es.length < 0
 · rw [zW, if_pos hn]
   refine qrf Tryd.func75 Tryd.ntmps75 Tryd.results75 ?_; conv => whnf
   repeat ((refine qz ?_; conv => whnf))
   exact xA rfl trivial
 · rw [zW, if_neg hn]
   refine qrf Tryd.func75 Tryd.ntmps75 Tryd.results75 ?_; conv => whnf
   repeat ((refine qz ?_; conv => whnf))
   refine xX (ι := { p : Nat × Int // p.1 ≤ es.length ∧ 0 ≤ p.2 ∧ p.2 ≤ l ∧ szG szC (es.drop p.1) p.2 = szG szC es (l - es.length) }) (fun p => ⟨[(0, .lst 2 (es.map xP)), (1, .v (.int .i64 p.1.2)), (5, .v (.int .i64 (p.1.1 : Int)))], []⟩) (fun p => es.length - p.1.1) ⟨(0, l - es.length), by simp, by omega, by omega, rfl⟩ (by exact qle) ?_
   rintro ⟨⟨k, cur⟩, hkl, hc0, hc1, hsz⟩
   simp only at hkl hc0 hc1 hsz ⊢
   conv => whnf
   by_cases hlt : k < es.length
   · have hd := aIS (l := cur) hlt
     rw [hsz] at hd
     obtain ⟨q1, q2, q3⟩ := hc _ (List.getElem_mem hlt)
     by_cases hneg : szC es[k] cur < 0
     · rw [if_pos hneg] at hd
       rw [hd]
       repeat ((first | refine qz ?_ | refine qc (aAz q1 q2 q3 hc0 (by omega)) ?_); conv => whnf)
       exact xA rfl trivial
     · rw [if_neg hneg] at hd
       have hle := (aHa (by omega : 0 ≤ szC es[k] cur)).1
       repeat ((first | refine qz ?_ | refine qc (aAz q1 q2 q3 hc0 (by omega)) ?_); conv => whnf)
       exact ⟨⟨(k + 1, szC es[k] cur), by simp; omega, by omega, by omega, hd.symm⟩, by exact qle, by simp; omega⟩
   · have hkk : k = es.length := by omega
     rw [hkk, List.drop_length] at hsz
     rw [← hsz]
     repeat ((refine qz ?_; conv => whnf))
     exact xA rfl trivial
theorem aCo {l : List Int} (hm : l.length ≤ 1048576) : AC Tryd.prog 156 [.lst 1 (l.map yN)] ⟨.own 0, [⟨3, 1, l.map yN⟩]⟩ := by
 refine qrf Tryd.func156 Tryd.ntmps156 Tryd.results156 ?_; conv => whnf
 repeat (first | (refine qz ?_; conv => whnf) | (refine qr (aAZ (n := l.length) (by omega) (by omega) (by simp; rfl) (by simp; rfl) rfl rfl) ?_; conv => whnf))
 have hrow : List.replicate l.length (AV.v (.int .i64 0)) = (l.take 0 ++ List.replicate (l.length - 0) 0).map yN := by simp [yN]
 refine xX (ι := { k : Nat // k ≤ l.length }) (fun k => ⟨[(0, .lst 1 (l.map yN)), (3, .own 8), (4, .v (.int .i64 (k.1 : Int)))], [(8, ⟨3, 1, (l.take k.1 ++ List.replicate (l.length - k.1) 0).map yN⟩)]⟩) (fun k => l.length - k.1) ⟨0, Nat.zero_le _⟩ ⟨⟨congrArg (fun x => some (OB.mk _ _ x)) hrow, trivial⟩, .inl ⟨rfl, rfl⟩, .inl ⟨rfl, rfl⟩, .inl ⟨rfl, rfl⟩, trivial⟩ ?_
 rintro ⟨k, hk⟩
 dsimp only
 conv => whnf
 by_cases hlt : k < l.length
 · have hlt2 : k < (l.take k ++ List.replicate (l.length - k) 0).length := by simp; omega
   have hset := congrArg (List.map yN) (kZ l 0 k hlt)
   rw [List.map_set] at hset
   repeat ((first | refine qz ?_ | refine qp (uT (by simpa using hlt2) rfl rfl rfl rfl rfl) ?_ | refine qr (yh (wO _ hlt2) rfl rfl rfl rfl rfl rfl) ?_); conv => whnf)
   exact ⟨⟨k + 1, hlt⟩, ⟨⟨congrArg (fun x => some (OB.mk _ _ x)) hset, trivial⟩, .inl ⟨rfl, rfl⟩, .inl ⟨rfl, rfl⟩, .inl ⟨rfl, rfl⟩, trivial⟩, by simp; omega⟩
 · have hkk : k = l.length := by omega
   subst hkk
   repeat ((refine qz ?_; conv => whnf))
   exact aA4 rfl (by show some (OB.mk _ _ _) = _; rw [List.take_length, Nat.sub_self, List.replicate_zero, List.append_nil])
theorem aFD {c : Cmt} (hm : c.1.length ≤ 1048576) (hm2 : c.2.length ≤ 1048576) : AC Tryd.prog 128 [xP c] ⟨xP c, []⟩ := by
 refine qrf Tryd.func128 Tryd.ntmps128 Tryd.results128 ?_; conv => whnf
 repeat (first | (refine qz ?_; conv => whnf) | (refine qc (aCo hm) ?_; conv => whnf) | (refine qc (aBB hm2) ?_; conv => whnf) | (refine qr (aDM rfl rfl rfl rfl rfl rfl rfl rfl) ?_; conv => whnf) | (refine qr (yh rfl rfl rfl rfl rfl (by conv => lhs; whnf) rfl) ?_; conv => whnf))
 exact aCc (x := xP c) rfl rfl rfl rfl trivial
abbrev ja : Cmt := ([], [])
theorem aDw {l : List Cmt} (hm : l.length ≤ 1048576) (hc : ∀ c ∈ l, c.1.length ≤ 1048576 ∧ c.2.length ≤ 1048576) : AC Tryd.prog 79 [.lst 2 (l.map xP)] ⟨.own 0, [⟨122, 2, l.map xP⟩]⟩ := by
 refine qrf Tryd.func79 Tryd.ntmps79 Tryd.results79 ?_; conv => whnf
 repeat (first | (refine qz ?_; conv => whnf) | (refine aE7 (aAZ (n := l.length) (by omega) (by omega) (by simp; rfl) (by simp; rfl) rfl rfl) rfl rfl (fun e => by cases e) (Gh.give 8 rfl (.inr rfl) rfl (Gh.done ?_)); conv => whnf))
 have hrow : List.replicate l.length (AV.agg [.lst 1 [], .lst 2 []]) = (l.take 0 ++ List.replicate (l.length - 0) ja).map xP := by simp [xP]
 refine xX (ι := { k : Nat // k ≤ l.length }) (fun k => ⟨[(0, .lst 2 (l.map xP)), (3, .own 8), (4, .v (.int .i64 (k.1 : Int)))], [(8, ⟨122, 2, (l.take k.1 ++ List.replicate (l.length - k.1) ja).map xP⟩)]⟩) (fun k => l.length - k.1) ⟨0, Nat.zero_le _⟩ ⟨⟨congrArg (fun x => some (OB.mk _ _ x)) hrow, trivial⟩, .inl ⟨rfl, rfl⟩, .inl ⟨rfl, rfl⟩, .inl ⟨rfl, rfl⟩, trivial⟩ ?_
 rintro ⟨k, hk⟩
 dsimp only
 conv => whnf
 by_cases hlt : k < l.length
 · obtain ⟨q1, q2⟩ := hc _ (List.getElem_mem hlt)
   have hlt2 : k < (l.take k ++ List.replicate (l.length - k) ja).length := by simp; omega
   have hset := congrArg (List.map xP) (kZ l ja k hlt)
   rw [List.map_set] at hset
   repeat ((first | refine qz ?_ | refine qc (aFD q1 q2) ?_ | refine qp (uT (by simpa using hlt2) rfl rfl rfl rfl rfl) ?_ | refine qr (yh (wO _ hlt2) rfl rfl rfl rfl rfl rfl) ?_); conv => whnf)
   exact ⟨⟨k + 1, hlt⟩, ⟨⟨congrArg (fun x => some (OB.mk _ _ x)) hset, trivial⟩, .inl ⟨rfl, rfl⟩, .inl ⟨rfl, rfl⟩, .inl ⟨rfl, rfl⟩, trivial⟩, by simp; omega⟩
 · have hkk : k = l.length := by omega
   subst hkk
   repeat ((refine qz ?_; conv => whnf))
   exact aA4 rfl (by show some (OB.mk _ _ _) = _; rw [List.take_length, Nat.sub_self, List.replicate_zero, List.append_nil])
theorem aGh {l : List Int} (hm : l.length ≤ maxLen) : AC Tryd.prog 160 [.lst 1 (l.map yN), .lst 1 (l.map yN)] ⟨.v (.bool true), []⟩ := by
 unfold maxLen at hm
 refine qrf Tryd.func160 Tryd.ntmps160 Tryd.results160 ?_; conv => whnf
 repeat ((refine qz ?_; conv => whnf))
 refine xX (ι := { k : Nat // k ≤ l.length }) (fun k => ⟨[(0, .lst 1 (l.map yN)), (1, .lst 1 (l.map yN)), (5, .v (.int .i64 (k.1 : Int)))], []⟩) (fun k => l.length - k.1) ⟨0, Nat.zero_le _⟩ (by exact qle) ?_
 rintro ⟨k, hk⟩
 dsimp only
 conv => whnf
 by_cases hlt : k < l.length
 · repeat ((refine qz ?_; conv => whnf))
   refine .inl ⟨by kernel_rfl, ?_⟩
   conv => whnf
   repeat ((first | refine qz ?_ | refine qp (xk (aGm rfl) rfl rfl rfl) ?_); conv => whnf)
   exact ⟨⟨k + 1, hlt⟩, by exact qle, by simp; omega⟩
 · repeat ((refine qz ?_; conv => whnf))
   exact xA rfl trivial
theorem aEv {c : Cmt} (hm : c.1.length ≤ maxLen) (hm2 : c.2.length ≤ maxLen) : AC Tryd.prog 132 [xP c, xP c] ⟨.v (.bool true), []⟩ := by
 have he : decide (c.2 = c.2) = true := by simp
 have hq := aEw (es := c.2) (es' := c.2) hm2 hm2
 rw [he] at hq
 refine qrf Tryd.func132 Tryd.ntmps132 Tryd.results132 ?_; conv => whnf
 repeat ((first | refine qz ?_ | refine qc (aGh hm) ?_ | refine qc (hq) ?_); conv => whnf)
 exact xA rfl trivial
theorem aDm {l : List Cmt} (hm : l.length ≤ maxLen) (hc : ∀ c ∈ l, c.1.length ≤ maxLen ∧ c.2.length ≤ maxLen) : AC Tryd.prog 84 [.lst 2 (l.map xP), .lst 2 (l.map xP)] ⟨.v (.bool true), []⟩ := by
 unfold maxLen at hm
 refine qrf Tryd.func84 Tryd.ntmps84 Tryd.results84 ?_; conv => whnf
 repeat ((refine qz ?_; conv => whnf))
 refine xX (ι := { k : Nat // k ≤ l.length }) (fun k => ⟨[(0, .lst 2 (l.map xP)), (1, .lst 2 (l.map xP)), (5, .v (.int .i64 (k.1 : Int)))], []⟩) (fun k => l.length - k.1) ⟨0, Nat.zero_le _⟩ (by exact qle) ?_
 rintro ⟨k, hk⟩
 dsimp only
 conv => whnf
 by_cases hlt : k < l.length
 · obtain ⟨q1, q2⟩ := hc _ (List.getElem_mem hlt)
   repeat ((refine qz ?_; conv => whnf))
   refine .inl ⟨by kernel_rfl, ?_⟩
   conv => whnf
   repeat ((first | refine qz ?_ | refine qc (aEv q1 q2) ?_); conv => whnf)
   exact ⟨⟨k + 1, hlt⟩, by exact qle, by simp; omega⟩
 · repeat ((refine qz ?_; conv => whnf))
   exact xA rfl trivial
end Go.Proofs.YtodckioppgjbdaaDoor.AM
namespace Go.Proofs.YtodckioppgjbdaaDoor.AM
open Go Go.RowKit
theorem aIg {a b : Edt} : a = b ↔ a.key = b.key ∧ a.val = b.val ∧ a.gone = b.gone := by
 cases a; cases b; simp
section
variable {P : Program} {Θ : Tab} {s : St} {d : Option Tmp} {ty : TypeId} {pos : String} {after : Array Edge} {g : Option (Nat × Bool)}
end
section
variable {s : St} {Θ : Tab}
end
theorem aH3 {P : Program} {w : World} {t : TypeId} {a b : Bool} (d : Nat) (h : P.underlying t = some .bool) : (Op.equalIn (d + 1) t (.bool a) (.bool b)).run P w = .ok (a == b) w := by
 simp [Op.equalIn, run_underlying h]
theorem aJC {P : Program} {w : World} {t : TypeId} {a b : Bool} (h : P.underlying t = some .bool) : (Op.equal t (.bool a) (.bool b)).run P w = .ok (a == b) w := by
 exact aH3 9999 h
theorem kJ {P : Program} {t : TypeId} {x y : Operand} {a b : Bool} (h : P.underlying t = some .bool) : yj P .neq t x y (.bool a) (.bool b) (.bool (a != b)) := fun w => by
 simp [eqGuard, binOp, aJC h]; cases a <;> cases b <;> rfl
theorem qA {P : Program} {Θ : Tab} {s : St} {d : Option Tmp} {ty : TypeId} {pos : String} {after : Array Edge} {g : Option (Nat × Bool)} {α : Type} {f : α → AV} {t : TypeId} {x y : Operand} {el sz b h : Nat} {k : IntKind} {z : AV} {xs : List α} (hh : h ≤ xs.length) (ht : Θ.look t = .slice el sz b z) (hx : s.ev x = .lst sz (xs.map f)) (hy : s.ev y = .v (.int k (h : Int))) : Pre P Θ ⟨d, .slice t x none (some y) none, ty, pos, after, g⟩ s ⟨.lst sz ((xs.take h).map f), none⟩ := by
 have := aIH (P := P) (Θ := Θ) (s := s) (d := d) (ty := ty) (pos := pos) (after := after) (g := g) (t := t) (x := x) (lo := none) (hi := some y) (l := 0) (h := h) (xs := xs.map f) (Nat.zero_le _) (by simpa using hh) ht hx rfl ⟨k, hy⟩
 rw [List.drop_zero, ← List.map_take] at this
 exact this
def aB3 (n : Nat) (ps : List Int) (i : Nat) : Prop := ∃ h : i < ps.length, 1 ≤ ps[i] ∧ ps[i] ≤ n ∧ ps[i] ∉ ps.take i
def aDh (n : Nat) (ps : List Int) : Prop := ps.length ≤ 2 ∧ (ps.length = 0 ↔ n = 0) ∧ ∀ i, i < ps.length → aB3 n ps i
open Classical in
noncomputable def kC (n : Nat) (ps : List Int) : Bool := decide (aDh n ps)
noncomputable def j6 (n : Nat) (c : Cmt) : Bool := yU c.2 && kC n c.1
noncomputable def vE : Nat → List Cmt → Bool
 | _, [] => true
 | n, c :: cs => j6 n c && vE (n + 1) cs
noncomputable def aA9 (cs : List Cmt) : Bool := decide (1 ≤ cs.length ∧ cs.length ≤ 60) && vE 0 cs
theorem qC {n : Nat} {ps : List Int} (h : ¬ aDh n ps) : kC n ps = false := by unfold kC; simpa using h
theorem aHQ {n : Nat} {ps : List Int} (h : aDh n ps) : kC n ps = true := by unfold kC; simpa using h
theorem aBk {n : Nat} {cs : List Cmt} {k : Nat} (h : k < cs.length) : vE n (cs.drop k) = (j6 n cs[k] && vE (n + 1) (cs.drop (k + 1))) := by
 rw [List.drop_eq_getElem_cons h, vE]
theorem aEA : ∀ {cs : List Cmt} {n : Nat}, vE n cs = true → ∀ i (h : i < cs.length), j6 (n + i) cs[i] = true
 | [], n, _, i, h => by simp at h
 | c :: cs, n, hb, 0, h => by
  unfold vE at hb
  simp only [Bool.and_eq_true] at hb
  exact hb.1
 | c :: cs, n, hb, i + 1, h => by
  unfold vE at hb
  simp only [Bool.and_eq_true] at hb
  have := aEA hb.2 i (by simpa using h)
  simpa [Nat.add_assoc, Nat.add_comm 1 i] using this
attribute [local irreducible] xI xJ xL yF yH Pre ACG
theorem uV {x lo hi : Int} (h : lo ≤ x) (h' : x ≤ hi) : AC Tryd.prog 89 [.v (.int .i64 x), .v (.int .i64 lo), .v (.int .i64 hi)] ⟨.v (.bool true), []⟩ := by
 refine qrf Tryd.func89 Tryd.ntmps89 Tryd.results89 ?_; conv => whnf
 repeat ((refine qz ?_; conv => whnf))
 exact xA rfl trivial
theorem aAc {x lo hi : Int} (h : ¬ (lo ≤ x ∧ x ≤ hi)) : AC Tryd.prog 89 [.v (.int .i64 x), .v (.int .i64 lo), .v (.int .i64 hi)] ⟨.v (.bool false), []⟩ := by
 by_cases h1 : lo ≤ x
 · refine qrf Tryd.func89 Tryd.ntmps89 Tryd.results89 ?_; conv => whnf
   repeat ((refine qz ?_; conv => whnf))
   exact xA rfl trivial
 · refine qrf Tryd.func89 Tryd.ntmps89 Tryd.results89 ?_; conv => whnf
   repeat ((refine qz ?_; conv => whnf))
   exact xA rfl trivial
theorem aDq {pre : List Cmt} {c : Cmt} (hn : pre.length ≤ maxLen) (hm : c.1.length ≤ maxLen) (hm2 : c.2.length ≤ maxLen) (hk : ∀ e ∈ c.2, e.1.size ≤ maxLen) : AC Tryd.prog 154 [.lst 2 (pre.map xP), xP c] ⟨.v (.bool (j6 pre.length c)), []⟩ := by
 have hn' := hn
 unfold maxLen at hn'
 unfold j6
 cases hmo : yU c.2 with
 | false =>
  refine qrf Tryd.func154 Tryd.ntmps154 Tryd.results154 ?_; conv => whnf
  repeat ((first | refine qz ?_ | refine qc (vg hmo hm2 hk) ?_); conv => whnf)
  exact xA rfl trivial
 | true =>
  rw [Bool.true_and]
  by_cases h2 : c.1.length ≤ 2
  case neg =>
   rw [qC (fun h => h2 h.1)]
   refine qrf Tryd.func154 Tryd.ntmps154 Tryd.results154 ?_; conv => whnf
   repeat ((first | refine qz ?_ | refine qc (vg hmo hm2 hk) ?_); conv => whnf)
   exact xA rfl trivial
  by_cases h3 : c.1.length = 0 ↔ pre.length = 0
  case neg =>
   rw [qC (fun h => h3 h.2.1)]
   by_cases h4 : c.1.length = 0
   · have h5 : ¬ pre.length = 0 := fun e => h3 ⟨fun _ => e, fun _ => h4⟩
     refine qrf Tryd.func154 Tryd.ntmps154 Tryd.results154 ?_; conv => whnf
     repeat ((first | refine qz ?_ | refine qc (vg hmo hm2 hk) ?_ | refine qp (xk (kJ Tryd.underlying4) rfl rfl rfl) ?_); conv => whnf)
     exact xA rfl trivial
   · have h5 : pre.length = 0 := Classical.byContradiction fun e => h3 ⟨fun q => absurd q h4, fun q => absurd q e⟩
     refine qrf Tryd.func154 Tryd.ntmps154 Tryd.results154 ?_; conv => whnf
     repeat ((first | refine qz ?_ | refine qc (vg hmo hm2 hk) ?_ | refine qp (xk (kJ Tryd.underlying4) rfl rfl rfl) ?_); conv => whnf)
     exact xA rfl trivial
  have fin : ∀ k, k ≤ c.1.length → ¬ k < c.1.length → (∀ i, i < k → aB3 pre.length c.1 i) → kC pre.length c.1 = true := fun k h1 h2' h3' => aHQ ⟨h2, h3, fun i hi => h3' i (by omega)⟩
  have bad : ∀ k, k < c.1.length → ¬ aB3 pre.length c.1 k → kC pre.length c.1 = false := fun k h1 h2' => qC (fun h => h2' (h.2.2 k h1))
  by_cases h4 : c.1.length = 0
  · have h5 : pre.length = 0 := h3.1 h4
    rw [fin 0 (by omega) (by omega) (fun i h => by omega)]
    refine qrf Tryd.func154 Tryd.ntmps154 Tryd.results154 ?_; conv => whnf
    repeat ((first | refine qz ?_ | refine qc (vg hmo hm2 hk) ?_ | refine qp (xk (kJ Tryd.underlying4) rfl rfl rfl) ?_); conv => whnf)
    refine xX (ι := Unit) (fun _ => ⟨[(5, .v (.int .i64 (c.1.length : Int))), (6, .v (.int .i64 0))], []⟩) (fun _ => 0) () ⟨trivial, .inl ⟨rfl, rfl⟩, .inl ⟨rfl, rfl⟩, trivial⟩ ?_
    rintro ⟨⟩
    conv => whnf
    repeat ((refine qz ?_; conv => whnf))
    exact xA rfl trivial
  · have h5 : ¬ pre.length = 0 := fun e => h4 (h3.2 e)
    refine qrf Tryd.func154 Tryd.ntmps154 Tryd.results154 ?_; conv => whnf
    repeat ((first | refine qz ?_ | refine qc (vg hmo hm2 hk) ?_ | refine qp (xk (kJ Tryd.underlying4) rfl rfl rfl) ?_); conv => whnf)
    refine xX (ι := { k : Nat // k ≤ c.1.length ∧ ∀ i, i < k → aB3 pre.length c.1 i }) (fun k => ⟨[(0, .lst 2 (pre.map xP)), (3, .optr 4 0 [] 0), (5, .v (.int .i64 (c.1.length : Int))), (6, .v (.int .i64 (k.1 : Int)))], [(4, ⟨122, 2, [xP c]⟩)]⟩) (fun k => c.1.length - k.1) ⟨0, Nat.zero_le _, fun i h => by omega⟩ ⟨⟨rfl, trivial⟩, .inl ⟨rfl, rfl⟩, .inl ⟨rfl, rfl⟩, .inl ⟨rfl, rfl⟩, .inl ⟨rfl, rfl⟩, trivial⟩ ?_
    rintro ⟨k, hk', hg⟩
    dsimp only at hk' hg ⊢
    conv => whnf
    by_cases hlt : k < c.1.length
    case neg =>
     rw [fin k hk' hlt hg]
     repeat ((refine qz ?_; conv => whnf))
     exact xA rfl trivial
    have h0 : 0 < c.1.length := by omega
    by_cases hin : 1 ≤ c.1[k] ∧ c.1[k] ≤ (pre.length : Int)
    case neg =>
     rw [bad k hlt (fun ⟨_, q1, q2, _⟩ => hin ⟨q1, q2⟩)]
     repeat ((refine qz ?_; conv => whnf))
     refine .inl ⟨by kernel_rfl, ?_⟩
     conv => whnf
     repeat ((first | refine qz ?_ | refine qc (aAc hin) ?_); conv => whnf)
     exact xA rfl trivial
    by_cases hk0 : k = 0
    · subst hk0
      repeat ((refine qz ?_; conv => whnf))
      refine .inl ⟨by kernel_rfl, ?_⟩
      conv => whnf
      repeat ((first | refine qz ?_ | refine qc (uV hin.1 hin.2) ?_); conv => whnf)
      exact ⟨⟨0 + 1, hlt, fun i hi => by
       have : i = 0 := by omega
       subst this; exact ⟨hlt, hin.1, hin.2, by simp⟩⟩, by exact qle, by simp; omega⟩
    · have hk1 : k = 1 := by omega
      subst hk1
      have htk : c.1.take 1 = [c.1[0]] := by
       rw [show (1 : Nat) = 0 + 1 from rfl, List.take_succ_eq_append_getElem h0]; simp
      by_cases hne : c.1[1] = c.1[0]
      · rw [bad 1 hlt (fun ⟨_, _, _, q⟩ => q (by rw [htk, hne]; simp))]
        repeat ((refine qz ?_; conv => whnf))
        refine .inl ⟨by kernel_rfl, ?_⟩
        conv => whnf
        repeat ((first | refine qz ?_ | refine qc (uV hin.1 hin.2) ?_ | refine qp (aDf (j := 0) (wO _ h0) rfl rfl rfl) ?_); conv => whnf)
        exact xA rfl trivial
      · repeat ((refine qz ?_; conv => whnf))
        refine .inl ⟨by kernel_rfl, ?_⟩
        conv => whnf
        repeat ((first | refine qz ?_ | refine qc (uV hin.1 hin.2) ?_ | refine qp (aDf (j := 0) (wO _ h0) rfl rfl rfl) ?_); conv => whnf)
        exact ⟨⟨1 + 1, hlt, fun i hi => by
         rcases Nat.lt_or_ge i 1 with h | h
         · exact hg i h
         · have : i = 1 := by omega
           subst this; exact ⟨hlt, hin.1, hin.2, by rw [htk]; simpa using hne⟩⟩, by exact qle, by simp; omega⟩
theorem aHh {cs : List Cmt} (hn : cs.length ≤ maxLen) (hc : ∀ c ∈ cs, c.1.length ≤ maxLen ∧ c.2.length ≤ maxLen ∧ ∀ e ∈ c.2, e.1.size ≤ maxLen) : AC Tryd.prog 126 [.lst 2 (cs.map xP)] ⟨.v (.bool (aA9 cs)), []⟩ := by
 have hn' := hn
 unfold maxLen at hn'
 unfold aA9
 by_cases hin : (1 : Int) ≤ (cs.length : Int) ∧ (cs.length : Int) ≤ 60
 case neg =>
  have : decide (1 ≤ cs.length ∧ cs.length ≤ 60) = false := by simp; omega
  rw [this, Bool.false_and]
  refine qrf Tryd.func126 Tryd.ntmps126 Tryd.results126 ?_; conv => whnf
  repeat ((first | refine qz ?_ | refine qc (aAc hin) ?_); conv => whnf)
  exact xA rfl trivial
 have : decide (1 ≤ cs.length ∧ cs.length ≤ 60) = true := by simp; omega
 rw [this, Bool.true_and]
 refine qrf Tryd.func126 Tryd.ntmps126 Tryd.results126 ?_; conv => whnf
 repeat ((first | refine qz ?_ | refine qc (uV hin.1 hin.2) ?_); conv => whnf)
 refine xX (ι := { k : Nat // k ≤ cs.length ∧ vE k (cs.drop k) = vE 0 cs }) (fun k => ⟨[(0, .lst 2 (cs.map xP)), (3, .v (.int .i64 (k.1 : Int)))], []⟩) (fun k => cs.length - k.1) ⟨0, Nat.zero_le _, rfl⟩ (by exact qle) ?_
 rintro ⟨k, hk', hd⟩
 dsimp only at hk' hd ⊢
 conv => whnf
 by_cases hlt : k < cs.length
 case neg =>
  rw [← hd, List.drop_eq_nil_of_le (by omega)]
  repeat ((refine qz ?_; conv => whnf))
  exact xA rfl trivial
 obtain ⟨q1, q2, q3⟩ := hc _ (List.getElem_mem hlt)
 rw [aBk hlt] at hd
 have hl : (cs.take k).length = k := by simp; omega
 have hac := aDq (pre := cs.take k) (c := cs[k]) (by omega) q1 q2 q3
 rw [hl] at hac
 cases hb : j6 k cs[k] with
 | false =>
  rw [hb, Bool.false_and] at hd
  rw [hb] at hac
  rw [← hd]
  repeat ((refine qz ?_; conv => whnf))
  refine .inl ⟨by kernel_rfl, ?_⟩
  conv => whnf
  repeat ((first | refine qz ?_ | refine qc (hac) ?_ | refine qp (qA (h := k) (xs := cs) (f := xP) (by omega) rfl rfl rfl) ?_); conv => whnf)
  exact xA rfl trivial
 | true =>
  rw [hb, Bool.true_and] at hd
  rw [hb] at hac
  repeat ((refine qz ?_; conv => whnf))
  refine .inl ⟨by kernel_rfl, ?_⟩
  conv => whnf
  repeat ((first | refine qz ?_ | refine qc (hac) ?_ | refine qp (qA (h := k) (xs := cs) (f := xP) (by omega) rfl rfl rfl) ?_); conv => whnf)
  exact ⟨⟨k + 1, hlt, hd⟩, by exact qle, by simp; omega⟩
end Go.Proofs.YtodckioppgjbdaaDoor.AM
namespace Go.Proofs.YtodckioppgjbdaaDoor.AM
open Go Go.RowKit
def ku : List Int → Int → Nat → Int
 | [], _, _ => -1
 | y :: l, x, k => if x = y then k else ku l x (k + 1)
theorem aEL : ∀ {l : List Int} {x : Int} {k : Nat}, x ∈ l → 0 ≤ ku l x k
 | y :: l, x, k, h => by
  unfold ku
  split
  · omega
  · rename_i hne
    rcases List.mem_cons.1 h with e | e
    · exact absurd e hne
    · exact aEL e
theorem aEM : ∀ {l : List Int} {x : Int} {k : Nat}, x ∉ l → ku l x k = -1
 | [], x, k, h => rfl
 | y :: l, x, k, h => by
  unfold ku
  rw [List.mem_cons, not_or] at h
  rw [if_neg h.1]; exact aEM h.2
theorem aGt {l : List Int} {x : Int} {k : Nat} (h : k < l.length) : ku (l.drop k) x k = if x = l[k] then (k : Int) else ku (l.drop (k + 1)) x (k + 1) := by
 rw [List.drop_eq_getElem_cons h, ku]
attribute [local irreducible] xI xJ xL yF yH Pre ACG
theorem aDp {l : List Int} {x : Int} (hm : l.length ≤ maxLen) : AC Tryd.prog 207 [.lst 1 (l.map yN), .v (.int .i64 x)] ⟨.v (.int .i64 (ku l x 0)), []⟩ := by
 unfold maxLen at hm
 refine qrf Tryd.func207 Tryd.ntmps207 Tryd.results207 ?_; conv => whnf
 repeat ((refine qz ?_; conv => whnf))
 refine xX (ι := { k : Nat // k ≤ l.length ∧ ku (l.drop k) x k = ku l x 0 }) (fun k => ⟨[(0, .lst 1 (l.map yN)), (1, .v (.int .i64 x)), (7, .v (.int .i64 (l.length : Int))), (8, .v (.int .i64 (k.1 : Int)))], []⟩) (fun k => l.length - k.1) ⟨0, Nat.zero_le _, rfl⟩ (by exact qle) ?_
 rintro ⟨k, hk, hd⟩
 dsimp only at hk hd ⊢
 conv => whnf
 by_cases hlt : k < l.length
 · rw [aGt hlt] at hd
   by_cases he : x = l[k]
   · rw [if_pos he] at hd
     rw [← hd]
     repeat ((refine qz ?_; conv => whnf))
     exact xA rfl trivial
   · rw [if_neg he] at hd
     repeat ((refine qz ?_; conv => whnf))
     exact ⟨⟨k + 1, hlt, hd⟩, by exact qle, by simp; omega⟩
 · rw [← hd, List.drop_eq_nil_of_le (by omega)]
   repeat ((refine qz ?_; conv => whnf))
   exact xA rfl trivial
theorem aD0 {l : List Int} {x : Int} (hm : l.length ≤ maxLen) (h : x ∈ l) : AC Tryd.prog 202 [.lst 1 (l.map yN), .v (.int .i64 x)] ⟨.v (.bool true), []⟩ := by
 have hge := aEL (k := 0) h
 refine qrf Tryd.func202 Tryd.ntmps202 Tryd.results202 ?_; conv => whnf
 repeat ((first | refine qz ?_ | refine qc (aDp hm) ?_); conv => whnf)
 exact xA rfl trivial
theorem aDZ {l : List Int} {x : Int} (hm : l.length ≤ maxLen) (h : x ∉ l) : AC Tryd.prog 202 [.lst 1 (l.map yN), .v (.int .i64 x)] ⟨.v (.bool false), []⟩ := by
 have hge := aEM (k := 0) h
 have hac := aDp (x := x) hm
 rw [hge] at hac
 refine qrf Tryd.func202 Tryd.ntmps202 Tryd.results202 ?_; conv => whnf
 repeat ((first | refine qz ?_ | refine qc (hac) ?_); conv => whnf)
 exact xA rfl trivial
theorem aDs {n : Nat} {ps : List Int} (hn : n ≤ 1048576) (hm : ps.length ≤ maxLen) : AC Tryd.prog 192 [.lst 1 (ps.map yN), .v (.int .i64 ((n : Int) + 1))] ⟨.v (.bool (kC n ps)), []⟩ := by
 have hm' := hm
 unfold maxLen at hm'
 by_cases h2 : ps.length ≤ 2
 case neg =>
  rw [qC (fun h => h2 h.1)]
  refine qrf Tryd.func192 Tryd.ntmps192 Tryd.results192 ?_; conv => whnf
  by_cases h5 : n = 0
  · repeat ((refine qz ?_; conv => whnf))
    exact xA rfl trivial
  · repeat ((refine qz ?_; conv => whnf))
    exact xA rfl trivial
 by_cases h3 : ps.length = 0 ↔ n = 0
 case neg =>
  rw [qC (fun h => h3 h.2.1)]
  by_cases h4 : ps.length = 0
  · have h5 : ¬ n = 0 := fun e => h3 ⟨fun _ => e, fun _ => h4⟩
    refine qrf Tryd.func192 Tryd.ntmps192 Tryd.results192 ?_; conv => whnf
    repeat ((first | refine qz ?_ | refine qp (xk (kJ Tryd.underlying4) rfl rfl rfl) ?_); conv => whnf)
    exact xA rfl trivial
  · have h5 : n = 0 := Classical.byContradiction fun e => h3 ⟨fun q => absurd q h4, fun q => absurd q e⟩
    refine qrf Tryd.func192 Tryd.ntmps192 Tryd.results192 ?_; conv => whnf
    repeat ((first | refine qz ?_ | refine qp (xk (kJ Tryd.underlying4) rfl rfl rfl) ?_); conv => whnf)
    exact xA rfl trivial
 have fin : ∀ k, k ≤ ps.length → ¬ k < ps.length → (∀ i, i < k → aB3 n ps i) → kC n ps = true := fun k h1 h2' h3' => aHQ ⟨h2, h3, fun i hi => h3' i (by omega)⟩
 have bad : ∀ k, k < ps.length → ¬ aB3 n ps k → kC n ps = false := fun k h1 h2' => qC (fun h => h2' (h.2.2 k h1))
 have loop : ∀ (s : St), s.le ⟨[(0, .lst 1 (ps.map yN)), (1, .v (.int .i64 ((n : Int) + 1))), (20, .lst 1 (ps.map yN)), (21, .v (.int .i64 (ps.length : Int))), (22, .v (.int .i64 0))], []⟩ → True := fun _ _ => trivial
 by_cases h4 : ps.length = 0
 · have h5 : n = 0 := h3.1 h4
   rw [fin 0 (by omega) (by omega) (fun i h => by omega)]
   refine qrf Tryd.func192 Tryd.ntmps192 Tryd.results192 ?_; conv => whnf
   repeat ((first | refine qz ?_ | refine qp (xk (kJ Tryd.underlying4) rfl rfl rfl) ?_); conv => whnf)
   refine xX (ι := Unit) (fun _ => ⟨[(21, .v (.int .i64 (ps.length : Int))), (22, .v (.int .i64 0))], []⟩) (fun _ => 0) () ⟨trivial, .inl ⟨rfl, rfl⟩, .inl ⟨rfl, rfl⟩, trivial⟩ ?_
   rintro ⟨⟩
   conv => whnf
   repeat ((refine qz ?_; conv => whnf))
   exact xA rfl trivial
 · have h5 : ¬ n = 0 := fun e => h4 (h3.2 e)
   refine qrf Tryd.func192 Tryd.ntmps192 Tryd.results192 ?_; conv => whnf
   repeat ((first | refine qz ?_ | refine qp (xk (kJ Tryd.underlying4) rfl rfl rfl) ?_); conv => whnf)
   refine xX (ι := { k : Nat // k ≤ ps.length ∧ ∀ i, i < k → aB3 n ps i }) (fun k => ⟨[(0, .lst 1 (ps.map yN)), (1, .v (.int .i64 ((n : Int) + 1))), (20, .lst 1 (ps.map yN)), (21, .v (.int .i64 (ps.length : Int))), (22, .v (.int .i64 (k.1 : Int)))], []⟩) (fun k => ps.length - k.1) ⟨0, Nat.zero_le _, fun i h => by omega⟩ (by exact qle) ?_
   rintro ⟨k, hk', hg⟩
   dsimp only at hk' hg ⊢
   conv => whnf
   by_cases hlt : k < ps.length
   case neg =>
    rw [fin k hk' hlt hg]
    repeat ((refine qz ?_; conv => whnf))
    exact xA rfl trivial
   have hl : (ps.take k).length ≤ maxLen := by unfold maxLen; simp; omega
   by_cases h1 : ps[k] < 1
   · rw [bad k hlt (fun ⟨_, q1, q2, _⟩ => by omega)]
     repeat ((refine qz ?_; conv => whnf))
     exact xA rfl trivial
   by_cases h6 : ps[k] ≥ (n : Int) + 1
   · rw [bad k hlt (fun ⟨_, q1, q2, _⟩ => by omega)]
     repeat ((refine qz ?_; conv => whnf))
     exact xA rfl trivial
   by_cases h7 : ps[k] ∈ ps.take k
   · rw [bad k hlt (fun ⟨_, _, _, q⟩ => q h7)]
     repeat ((first | refine qz ?_ | refine qp (qA (h := k) (xs := ps) (f := yN) (by omega) rfl rfl rfl) ?_ | refine qc (aD0 hl h7) ?_); conv => whnf)
     exact xA rfl trivial
   · repeat ((first | refine qz ?_ | refine qp (qA (h := k) (xs := ps) (f := yN) (by omega) rfl rfl rfl) ?_ | refine qc (aDZ hl h7) ?_); conv => whnf)
     exact ⟨⟨k + 1, hlt, fun i hi => by
      rcases Nat.lt_or_ge i k with h | h
      · exact hg i h
      · have : i = k := by omega
        subst this; exact ⟨hlt, by omega, by omega, h7⟩⟩, by exact qle, by simp; omega⟩
theorem aEu {n : Nat} {c : Cmt} (hn : n ≤ 1048576) (hm : c.1.length ≤ maxLen) (hm2 : c.2.length ≤ maxLen) (hk : ∀ e ∈ c.2, e.1.size ≤ maxLen) : AC Tryd.prog 173 [xP c, .v (.int .i64 ((n : Int) + 1))] ⟨.v (.bool (j6 n c)), []⟩ := by
 have hp := aDs (ps := c.1) hn hm
 unfold j6
 cases hb : kC n c.1 with
 | false =>
  rw [hb] at hp
  rw [Bool.and_false]
  refine qrf Tryd.func173 Tryd.ntmps173 Tryd.results173 ?_; conv => whnf
  repeat ((first | refine qz ?_ | refine qc (hp) ?_); conv => whnf)
  exact xA rfl trivial
 | true =>
  rw [hb] at hp
  rw [Bool.and_true]
  refine qrf Tryd.func173 Tryd.ntmps173 Tryd.results173 ?_; conv => whnf
  repeat ((first | refine qz ?_ | refine qc (hp) ?_ | refine qc (aDo hm2 hk) ?_); conv => whnf)
  exact xA rfl trivial
theorem aDl {cs : List Cmt} (hn : cs.length ≤ maxLen) (hc : ∀ c ∈ cs, c.1.length ≤ maxLen ∧ c.2.length ≤ maxLen ∧ ∀ e ∈ c.2, e.1.size ≤ maxLen) : AC Tryd.prog 157 [.lst 2 (cs.map xP)] ⟨.v (.bool (decide (cs.length ≤ 60) && vE 0 cs)), []⟩ := by
 have hn' := hn
 unfold maxLen at hn'
 by_cases hin : cs.length ≤ 60
 case neg =>
  have : decide (cs.length ≤ 60) = false := by simpa using hin
  rw [this, Bool.false_and]
  refine qrf Tryd.func157 Tryd.ntmps157 Tryd.results157 ?_; conv => whnf
  repeat ((refine qz ?_; conv => whnf))
  exact xA rfl trivial
 have : decide (cs.length ≤ 60) = true := by simpa using hin
 rw [this, Bool.true_and]
 refine qrf Tryd.func157 Tryd.ntmps157 Tryd.results157 ?_; conv => whnf
 repeat ((refine qz ?_; conv => whnf))
 refine xX (ι := { k : Nat // k ≤ cs.length ∧ vE k (cs.drop k) = vE 0 cs }) (fun k => ⟨[(8, .lst 2 (cs.map xP)), (9, .v (.int .i64 (cs.length : Int))), (10, .v (.int .i64 (k.1 : Int)))], []⟩) (fun k => cs.length - k.1) ⟨0, Nat.zero_le _, rfl⟩ (by exact qle) ?_
 rintro ⟨k, hk', hd⟩
 dsimp only at hk' hd ⊢
 conv => whnf
 by_cases hlt : k < cs.length
 case neg =>
  rw [← hd, List.drop_eq_nil_of_le (by omega)]
  repeat ((refine qz ?_; conv => whnf))
  exact xA rfl trivial
 obtain ⟨q1, q2, q3⟩ := hc _ (List.getElem_mem hlt)
 rw [aBk hlt] at hd
 have hac := aEu (n := k) (c := cs[k]) (by omega) q1 q2 q3
 cases hb : j6 k cs[k] with
 | false =>
  rw [hb, Bool.false_and] at hd
  rw [hb] at hac
  rw [← hd]
  repeat (first | (refine qz ?_; conv => whnf) | (refine qc (hac) ?_; conv => whnf) | (refine qr (yh rfl rfl rfl rfl rfl (by conv => lhs; whnf) rfl) ?_; conv => whnf))
  exact xA rfl trivial
 | true =>
  rw [hb, Bool.true_and] at hd
  rw [hb] at hac
  repeat (first | (refine qz ?_; conv => whnf) | (refine qc (hac) ?_; conv => whnf) | (refine qr (yh rfl rfl rfl rfl rfl (by conv => lhs; whnf) rfl) ?_; conv => whnf))
  exact ⟨⟨k + 1, hlt, hd⟩, by exact qle, by simp; omega⟩
theorem aEz {cs : List Cmt} (hn : cs.length ≤ maxLen) (hc : ∀ c ∈ cs, c.1.length ≤ maxLen ∧ c.2.length ≤ maxLen ∧ ∀ e ∈ c.2, e.1.size ≤ maxLen) : AC Tryd.prog 130 [.lst 2 (cs.map xP)] ⟨.v (.bool (aA9 cs)), []⟩ := by
 have hn' := hn
 unfold maxLen at hn'
 unfold aA9
 by_cases h0 : 1 ≤ cs.length
 · have : decide (1 ≤ cs.length ∧ cs.length ≤ 60) = decide (cs.length ≤ 60) := by simp [h0]
   rw [this]
   refine qrf Tryd.func130 Tryd.ntmps130 Tryd.results130 ?_; conv => whnf
   repeat ((first | refine qz ?_ | refine qc (aDl hn hc) ?_); conv => whnf)
   exact xA rfl trivial
 · have : decide (1 ≤ cs.length ∧ cs.length ≤ 60) = false := by simp [h0]
   rw [this, Bool.false_and]
   refine qrf Tryd.func130 Tryd.ntmps130 Tryd.results130 ?_; conv => whnf
   repeat ((refine qz ?_; conv => whnf))
   exact xA rfl trivial
def wC (N : Nat) (cs : List Cmt) : Prop := ∀ c ∈ cs, c.1.length ≤ N ∧ c.2.length ≤ N ∧ ∀ e ∈ c.2, e.1.size ≤ N
theorem wC.le {N M : Nat} {cs : List Cmt} (h : wC N cs) (k : N ≤ M) : wC M cs := fun c hc => ⟨Nat.le_trans (h c hc).1 k, Nat.le_trans (h c hc).2.1 k, fun e he => Nat.le_trans ((h c hc).2.2 e he) k⟩
end Go.Proofs.YtodckioppgjbdaaDoor.AM
namespace Go.Proofs.YtodckioppgjbdaaDoor.AM
open Go Go.RowKit Go.ChangeShapes Go.WideShapes Go.Deep
def wZ : List (Value × Value) → List Value
 | [] => []
 | p :: l => p.1 :: p.2 :: wZ l
theorem aDN : ∀ (l : List (Value × Value)) (j : Nat) (u : Value), (wZ l)[j]? = some u → ∃ i, ∃ hi : i < l.length, (j = i * 2 ∧ u = l[i].1) ∨ (j = i * 2 + 1 ∧ u = l[i].2)
 | [], j, u, h => by simp [wZ] at h
 | p :: l, 0, u, h => by simp [wZ] at h; exact ⟨0, by simp, .inl ⟨rfl, h.symm⟩⟩
 | p :: l, 1, u, h => by simp [wZ] at h; exact ⟨0, by simp, .inr ⟨rfl, h.symm⟩⟩
 | p :: l, j + 2, u, h => by
  simp only [wZ, List.getElem?_cons_succ] at h
  obtain ⟨i, hi, h⟩ := aDN l j u h
  refine ⟨i + 1, by simpa using hi, ?_⟩
  simp only [List.getElem_cons_succ]
  rcases h with ⟨h1, h2⟩ | ⟨h1, h2⟩
  · exact .inl ⟨by omega, h2⟩
  · exact .inr ⟨by omega, h2⟩
section
variable {S : Nat → Prop} {w : World}
theorem aFj : ∀ (l : List Int), RL S w (l.map yN) (l.map fun x => .int .i64 x)
 | [] => by simp only [List.map_nil]; exact jL
 | x :: l => by simp only [List.map_cons]; exact zi (c1 := [_]) (aB5 rfl) (aFj l)
theorem aFi : ∀ (l : List (Cmt × Value × Value)), (∀ p ∈ l, RA S w (.lst 1 (p.1.1.map yN)) [p.2.1] ∧ RA S w (.lst 2 (p.1.2.map yT)) [p.2.2]) → RL S w ((l.map (·.1)).map xP) (wZ (l.map (·.2)))
 | [], _ => by simp only [List.map_nil]; exact jL
 | p :: l, h => by
  simp only [List.map_cons, wZ]
  obtain ⟨h1, h2⟩ := h p (by simp)
  exact zi (c1 := [_, _]) (aE8 (zi (c1 := [_]) h1 (zi (c1 := [_]) h2 jL))) (aFi l (fun q hq => h q (List.mem_cons_of_mem _ hq)))
end
section
variable {H : Type} {enc : TypeId × Value → H} {P : Program} {w : World} {base : Nat} {held : Bool}
theorem aAX {t e : TypeId} {v : Value} {k : Nat} {y : DataW H × List MemPlace} (ht : P.underlying t = some (.slice e)) (h : DataW.trod enc P w base (fun _ => true) held k t [v] = some y) : ∃ A n c, v = .slice A n c := by
 rcases open_slice ht h with ⟨hcs, _⟩ | ⟨a, len, cap, m, n, D, Pl, hcs, _⟩
 · simp at hcs; exact ⟨_, _, _, hcs⟩
 · simp at hcs; exact ⟨_, _, _, hcs⟩
theorem open_ints {t e : TypeId} {v : Value} {k : Nat} {y : DataW H × List MemPlace} (ht : P.underlying t = some (.slice e)) (he : P.underlying e = some (.int .i64)) (hC : P.cellsOf e = 1) (h : DataW.trod enc P w base (fun _ => true) held k t [v] = some y) :
 ∃ l : List Int, RA (InW w) w (.lst 1 (l.map yN)) [v] ∧ l.length ≤ maxLen := by
 rcases open_slice ht h with ⟨hcs, _⟩ | ⟨a, len, cap, m, n, D, Pl, hcs, hb, hl, hm, hmm, hx, hi⟩
 · exact ⟨[], by rw [hcs]; exact aKI (by omega), Nat.zero_le _⟩
 · rw [hcs]
   simp at hmm
   subst hmm
   rcases Nat.eq_zero_or_pos len with h0 | hpos
   · subst h0
     refine ⟨[], ?_, Nat.zero_le _⟩
     simp only [List.map_nil]
     unfold RA
     exact ⟨_, _, rfl, Nat.zero_le _, hm, by simp, by omega, .inl rfl⟩
   have hall : ∀ i, i < len → ∃ x : Int, w.cell? (a.add i) = some (.int .i64 x) := fun i hil => by
    obtain ⟨cs', hc, ht'⟩ := hi i (by omega)
    rw [hC, Nat.mul_one] at hc
    obtain ⟨_, hcl, hat⟩ := World.cells?_some hc
    obtain ⟨x, hx, _⟩ := DataW.trod_int he ht'
    subst hx
    have := hat 0 (by omega)
    rw [aAE] at this
    exact ⟨x, this⟩
   obtain ⟨x0, hx0⟩ := hall 0 hpos
   rw [aAE] at hx0
   have hsp := aA8 hx0
   obtain ⟨b, off, sp⟩ := a
   simp at hsp
   subst hsp
   have hadd : ∀ j, (⟨b, off, none⟩ : Addr).add j = ⟨b, off + j, none⟩ := fun j => by unfold Addr.add; split <;> simp_all
   obtain ⟨l, hll, hq⟩ := aAl (α := Int) len (fun i x => w.cell? ⟨b, off + i, none⟩ = some (.int .i64 x)) (fun i hil => by
    obtain ⟨x, hx⟩ := hall i hil
    rw [hadd] at hx; exact ⟨x, hx⟩)
   refine ⟨l, ?_, by omega⟩
   unfold RA
   refine ⟨_, _, by rw [List.length_map, hll], by rw [List.length_map]; omega, hm, aI9 l, by omega, .inr ⟨b, off, _, rfl, World.block_lt_of_cell? w _ hx0, aFj l, fun j u hu => ?_⟩⟩
   rw [List.getElem?_map] at hu
   obtain ⟨x, hx, rfl⟩ := Option.map_eq_some_iff.1 hu
   obtain ⟨hj, hx⟩ := List.getElem?_eq_some_iff.1 hx
   rw [← hx]; exact hq j hj
theorem aHL {t e te : TypeId} {f0 f1 g0 g1 : Field} {e0 : TypeId} {A : Option Addr} {n c : Nat} {d : DataW H} {p : List MemPlace} (ht : P.underlying t = some (.slice e)) (he : P.underlying e = some (.struct #[f0, f1]))
 (hone : oneCellFields P #[f0, f1] = true) (hC : P.cellsOf e = 2) (h0 : P.underlying f0.type = some (.slice e0)) (hi0 : P.underlying e0 = some (.int .i64)) (hC0 : P.cellsOf e0 = 1)
 (h1 : P.underlying f1.type = some (.slice te)) (h2 : P.underlying te = some (.struct #[g0, g1])) (hone1 : oneCellFields P #[g0, g1] = true) (hC1 : P.cellsOf te = 2) (k0 : P.underlying g0.type = some .string) (k1 : P.underlying g1.type = some (.int .i64)) (h : DataW.Trod enc P w base (fun _ => true) held t (.slice A n c) d p) :
 ∃ cs : List Cmt, (∀ hp B V, RV (InW w) w hp B V (.lst 2 (cs.map xP)) (.slice A n c)) ∧ cs.length ≤ maxLen ∧ wC maxLen cs := by
 have hcap := aB1 ht h
 obtain ⟨hn, hf⟩ := jf ht he hone hC (by simp) h
 rcases Nat.eq_zero_or_pos n with h | hpos
 · subst h
   refine ⟨[], fun hp B V => ?_, Nat.zero_le _, fun c hc => by cases hc⟩
   simp only [List.map_nil]
   unfold RV RA
   exact ⟨_, _, rfl, Nat.zero_le _, hcap.2, by simp, by omega, .inl rfl⟩
 obtain ⟨b, off, rfl, hlt, hi⟩ := hf hpos
 obtain ⟨l, hl, hq⟩ := aAl (α := Cmt × Value × Value) n (fun i x => w.cell? ⟨b, off + (i * 2 + 0), none⟩ = some x.2.1 ∧ w.cell? ⟨b, off + (i * 2 + 1), none⟩ = some x.2.2 ∧ RA (InW w) w (.lst 1 (x.1.1.map yN)) [x.2.1] ∧ RA (InW w) w (.lst 2 (x.1.2.map yT)) [x.2.2] ∧ x.1.1.length ≤ maxLen ∧ x.1.2.length ≤ maxLen ∧ ∀ e ∈ x.1.2, e.1.size ≤ maxLen) (fun i hin => by
  obtain ⟨k, hk⟩ := hi i hin
  obtain ⟨v0, y0, c0, t0⟩ := hk 0 f0 rfl
  obtain ⟨v1, y1, c1, t1⟩ := hk 1 f1 rfl
  obtain ⟨ps, hps, hpl⟩ := open_ints h0 hi0 hC0 t0
  obtain ⟨A1, n1, c1', rfl⟩ := aAX h1 t1
  have T1 : DataW.Trod enc P w base (fun _ => true) held f1.type (.slice A1 n1 c1') y1.1 y1.2 := ⟨k, by simpa [Value.cells] using t1⟩
  obtain ⟨es, hrd, hm, hks⟩ := aHM h1 h2 hone1 hC1 k0 k1 T1
  have := aJD (hp := fun _ => none) (B := fun _ => 0) (V := fun _ => undef) (aB1 h1 T1) hrd
  unfold RV at this
  exact ⟨((ps, es), v0, _), c0, c1, hps, this, hpl, Nat.le_trans (Nat.le_of_eq hrd.len) hm, hks⟩)
 refine ⟨l.map (·.1), fun hp B V => ?_, by rw [List.length_map]; omega, fun c hc => ?_⟩
 · unfold RV RA
   refine ⟨_, c, by rw [List.length_map, List.length_map, hl], by rw [List.length_map, List.length_map]; omega, hcap.2, aI8 _, by omega, .inr ⟨b, off, _, rfl, hlt, aFi l (fun p hp => by
    obtain ⟨i, hi', rfl⟩ := List.getElem_of_mem hp
    exact ⟨(hq i hi').2.2.1, (hq i hi').2.2.2.1⟩), fun j u hu => ?_⟩⟩
   obtain ⟨i, hi', h⟩ := aDN _ j u hu
   rw [List.length_map] at hi'
   obtain ⟨q1, q2, _⟩ := hq i hi'
   rcases h with ⟨rfl, rfl⟩ | ⟨rfl, rfl⟩
   · simpa using q1
   · simpa using q2
 · obtain ⟨x, hx, rfl⟩ := List.mem_map.1 hc
   obtain ⟨i, hi', rfl⟩ := List.getElem_of_mem hx
   exact (hq i hi').2.2.2.2
end
end Go.Proofs.YtodckioppgjbdaaDoor.AM
namespace Go.Proofs.YtodckioppgjbdaaDoor.AM
open Go Go.RowKit
structure Rf where
 name : ByteArray
 head : Int
 ver : Int
 gone : Bool
def xV (r : Rf) : AV := .agg [.v (.string r.name), .v (.int .i64 r.head), .v (.int .i64 r.ver), .v (.bool r.gone)]
theorem aIa (es : List Rf) : ∀ x ∈ es.map xV, asz x = 4 := fun x hx => by obtain ⟨e, _, rfl⟩ := List.mem_map.1 hx; rfl
theorem qP (e : Rf) : xu (xV e) := by unfold xV; simp [xu, y9]
theorem aJB {a b : Rf} : a = b ↔ a.name = b.name ∧ a.head = b.head ∧ a.ver = b.ver ∧ a.gone = b.gone := by
 cases a; cases b; simp
abbrev rSz (e : Rf) : Nat := e.name.size
abbrev aG8 : Rf := ⟨ByteArray.empty, 0, 0, false⟩
theorem aIV {P : Program} {t : TypeId} {x y : Operand} {a b c : Int} (h0 : 0 ≤ a) (hb : 0 < b) (h1 : b ≤ 1000) (h2 : a ≤ 1000000000) (hc : c = a % b) : yj P .rem t x y (.int .i64 a) (.int .i64 b) (.int .i64 c) := fun w => by
 have hb0 : b ≠ 0 := by omega
 have hr : (Op.intDiv .rem .i64 a b).run P w = .ok (.int .i64 (a.tmod b)) w := by simp [Op.intDiv, hb0]
 subst hc
 rw [← Int.tmod_eq_emod_of_nonneg h0]
 simp [eqGuard, binOp, hr]
theorem aCM {α : Type} {xs : List α} {k : Nat} {y : α} (h : k < xs.length) : (xs.set k y)[k]? = some y := by simp [h]
attribute [local irreducible] xI xJ xL yF yH Pre ACG
theorem aDu {e : Rf} {l : Int} (hk : e.name.size ≤ maxLen) (h0 : 0 ≤ l) (h1 : l ≤ 1048576) : AC Tryd.prog 125 [xV e, .v (.int .i64 l)] ⟨.v (.int .i64 (if l - e.name.size < 0 then -1 else l - e.name.size)), []⟩ := by
 unfold maxLen at hk
 by_cases hn : l - e.name.size < 0
 · rw [if_pos hn]
   refine qrf Tryd.func125 Tryd.ntmps125 Tryd.results125 ?_; conv => whnf
   repeat ((refine qz ?_; conv => whnf))
   exact xA rfl trivial
 · rw [if_neg hn]
   refine qrf Tryd.func125 Tryd.ntmps125 Tryd.results125 ?_; conv => whnf
   repeat ((refine qz ?_; conv => whnf))
   exact xA rfl trivial
theorem aGk {es : List Rf} {l : Int} (hm : es.length ≤ maxLen) (hk : ∀ e ∈ es, e.name.size ≤ maxLen) (h0 : 0 ≤ l) (h1 : l ≤ 1048576) : AC Tryd.prog 76 [.lst 4 (es.map xV), .v (.int .i64 l)] ⟨.v (.int .i64 (szL rSz es l)), []⟩ := by
 unfold maxLen at hm
 by_cases hn : l - es.length < 0
 · rw [szL, if_pos hn]
   refine qrf Tryd.func76 Tryd.ntmps76 Tryd.results76 ?_; conv => whnf
   repeat ((refine qz ?_; conv => whnf))
   exact xA rfl trivial
 · rw [szL, if_neg hn]
   refine qrf Tryd.func76 Tryd.ntmps76 Tryd.results76 ?_; conv => whnf
   repeat ((refine qz ?_; conv => whnf))
   refine xX (ι := { p : Nat × Int // p.1 ≤ es.length ∧ 0 ≤ p.2 ∧ p.2 ≤ l ∧ szF rSz (es.drop p.1) p.2 = szF rSz es (l - es.length) }) (fun p => ⟨[(0, .lst 4 (es.map xV)), (1, .v (.int .i64 p.1.2)), (5, .v (.int .i64 (p.1.1 : Int)))], []⟩) (fun p => es.length - p.1.1) ⟨(0, l - es.length), by simp, by omega, by omega, rfl⟩ (by exact qle) ?_
   rintro ⟨⟨k, cur⟩, hkl, hc0, hc1, hsz⟩
   simp only at hkl hc0 hc1 hsz ⊢
   conv => whnf
   by_cases hlt : k < es.length
   · have hd := aEm (g := rSz) (l := cur) hlt
     rw [hsz] at hd
     by_cases hneg : cur - (es[k]).name.size < 0
     · rw [if_pos hneg] at hd
       rw [hd]
       repeat (first | (refine qz ?_; conv => whnf) | (refine qp (wJ (aDu (hk _ (List.getElem_mem hlt)) (by omega) (by omega)) rfl (.inl rfl) trivial rfl rfl) ?_; rw [if_pos hneg]; conv => whnf))
       exact xA rfl trivial
     · rw [if_neg hneg] at hd
       repeat (first | (refine qz ?_; conv => whnf) | (refine qp (wJ (aDu (hk _ (List.getElem_mem hlt)) (by omega) (by omega)) rfl (.inl rfl) trivial rfl rfl) ?_; rw [if_neg hneg]; conv => whnf))
       exact ⟨⟨(k + 1, cur - (es[k]).name.size), by simp; omega, by omega, by omega, hd.symm⟩, by exact qle, by simp; omega⟩
   · have hkk : k = es.length := by omega
     rw [hkk, List.drop_length] at hsz
     rw [← hsz]
     repeat ((refine qz ?_; conv => whnf))
     exact xA rfl trivial
theorem aHm {c : Rf} : AC Tryd.prog 129 [xV c] ⟨xV c, []⟩ := by
 refine qrf Tryd.func129 Tryd.ntmps129 Tryd.results129 ?_; conv => whnf
 repeat (first | (refine qz ?_; conv => whnf) | (refine qr (yh rfl rfl rfl rfl rfl rfl rfl) ?_; conv => whnf) | (refine qr (yh rfl rfl rfl rfl rfl (by conv => lhs; whnf) rfl) ?_; conv => whnf))
 exact aCc (x := xV c) rfl rfl rfl rfl trivial
theorem aCp {l : List Rf} (hm : l.length ≤ 1048576) : AC Tryd.prog 80 [.lst 4 (l.map xV)] ⟨.own 0, [⟨125, 4, l.map xV⟩]⟩ := by
 refine qrf Tryd.func80 Tryd.ntmps80 Tryd.results80 ?_; conv => whnf
 repeat (first | (refine qz ?_; conv => whnf) | (refine qr (aAZ (n := l.length) (by omega) (by omega) (by simp; rfl) (by simp; rfl) rfl rfl) ?_; conv => whnf))
 have hrow : List.replicate l.length (AV.agg [zS, zI, zI, zB]) = (l.take 0 ++ List.replicate (l.length - 0) aG8).map xV := by simp [xV]
 refine xX (ι := { k : Nat // k ≤ l.length }) (fun k => ⟨[(0, .lst 4 (l.map xV)), (3, .own 8), (4, .v (.int .i64 (k.1 : Int)))], [(8, ⟨125, 4, (l.take k.1 ++ List.replicate (l.length - k.1) aG8).map xV⟩)]⟩) (fun k => l.length - k.1) ⟨0, Nat.zero_le _⟩ ⟨⟨congrArg (fun x => some (OB.mk _ _ x)) hrow, trivial⟩, .inl ⟨rfl, rfl⟩, .inl ⟨rfl, rfl⟩, .inl ⟨rfl, rfl⟩, trivial⟩ ?_
 rintro ⟨k, hk⟩
 dsimp only
 conv => whnf
 by_cases hlt : k < l.length
 · have hlt2 : k < (l.take k ++ List.replicate (l.length - k) aG8).length := by simp; omega
   have hset := congrArg (List.map xV) (kZ l aG8 k hlt)
   rw [List.map_set] at hset
   repeat ((first | refine qz ?_ | refine qc (aHm (c := l[k])) ?_ | refine qp (uT (by simpa using hlt2) rfl rfl rfl rfl rfl) ?_ | refine qr (yh (wO _ hlt2) rfl rfl rfl rfl rfl rfl) ?_); conv => whnf)
   exact ⟨⟨k + 1, hlt⟩, ⟨⟨congrArg (fun x => some (OB.mk _ _ x)) hset, trivial⟩, .inl ⟨rfl, rfl⟩, .inl ⟨rfl, rfl⟩, .inl ⟨rfl, rfl⟩, trivial⟩, by simp; omega⟩
 · have hkk : k = l.length := by omega
   subst hkk
   repeat ((refine qz ?_; conv => whnf))
   exact aA4 rfl (by show some (OB.mk _ _ _) = _; rw [List.take_length, Nat.sub_self, List.replicate_zero, List.append_nil])
theorem aHf {c : Rf} : AC Tryd.prog 133 [xV c, xV c] ⟨.v (.bool true), []⟩ := by
 have hb : (c.gone != c.gone) = false := by simp
 refine qrf Tryd.func133 Tryd.ntmps133 Tryd.results133 ?_; conv => whnf
 repeat (first | (refine qp (xk (aAf rfl) rfl rfl rfl) ?_; conv => whnf) | (refine qz ?_; conv => whnf) | (refine qp (xk (kJ Tryd.underlying4) rfl rfl rfl) ?_; rw [hb]; conv => whnf))
 exact xA rfl trivial
theorem aGi {l : List Rf} (hm : l.length ≤ maxLen) : AC Tryd.prog 85 [.lst 4 (l.map xV), .lst 4 (l.map xV)] ⟨.v (.bool true), []⟩ := by
 unfold maxLen at hm
 refine qrf Tryd.func85 Tryd.ntmps85 Tryd.results85 ?_; conv => whnf
 repeat ((refine qz ?_; conv => whnf))
 refine xX (ι := { k : Nat // k ≤ l.length }) (fun k => ⟨[(0, .lst 4 (l.map xV)), (1, .lst 4 (l.map xV)), (5, .v (.int .i64 (k.1 : Int)))], []⟩) (fun k => l.length - k.1) ⟨0, Nat.zero_le _⟩ (by exact qle) ?_
 rintro ⟨k, hk⟩
 dsimp only
 conv => whnf
 by_cases hlt : k < l.length
 · repeat ((refine qz ?_; conv => whnf))
   refine .inl ⟨by kernel_rfl, ?_⟩
   conv => whnf
   repeat ((first | refine qz ?_ | refine qc (aHf (c := l[k])) ?_); conv => whnf)
   exact ⟨⟨k + 1, hlt⟩, by exact qle, by simp; omega⟩
 · repeat ((refine qz ?_; conv => whnf))
   exact xA rfl trivial
end Go.Proofs.YtodckioppgjbdaaDoor.AM
namespace Go.Proofs.YtodckioppgjbdaaDoor.AM
open Go Go.RowKit Go.ChangeShapes Go.WideShapes Go.Deep
def qj (r : Rf) : List Value := [.string r.name, .int .i64 r.head, .int .i64 r.ver, .bool r.gone]
def vT (l : List Rf) : List Value := l.flatMap qj
theorem aEb : ∀ (l : List Rf) (j : Nat) (u : Value), (vT l)[j]? = some u → ∃ i, ∃ hi : i < l.length, (j = i * 4 ∧ u = .string l[i].name) ∨ (j = i * 4 + 1 ∧ u = .int .i64 l[i].head) ∨ (j = i * 4 + 2 ∧ u = .int .i64 l[i].ver) ∨ (j = i * 4 + 3 ∧ u = .bool l[i].gone)
 | [], j, u, h => by simp [vT] at h
 | r :: l, 0, u, h => by simp [vT, qj] at h; exact ⟨0, by simp, .inl ⟨rfl, h.symm⟩⟩
 | r :: l, 1, u, h => by simp [vT, qj] at h; exact ⟨0, by simp, .inr (.inl ⟨rfl, h.symm⟩)⟩
 | r :: l, 2, u, h => by simp [vT, qj] at h; exact ⟨0, by simp, .inr (.inr (.inl ⟨rfl, h.symm⟩))⟩
 | r :: l, 3, u, h => by simp [vT, qj] at h; exact ⟨0, by simp, .inr (.inr (.inr ⟨rfl, h.symm⟩))⟩
 | r :: l, j + 4, u, h => by
  have h' : (vT l)[j]? = some u := by
   have : vT (r :: l) = qj r ++ vT l := rfl
   rw [this, List.getElem?_append_right (by simp [qj])] at h
   simpa [qj] using h
  obtain ⟨i, hi, h⟩ := aEb l j u h'
  refine ⟨i + 1, by simpa using hi, ?_⟩
  simp only [List.getElem_cons_succ]
  rcases h with ⟨h1, h2⟩ | ⟨h1, h2⟩ | ⟨h1, h2⟩ | ⟨h1, h2⟩
  · exact .inl ⟨by omega, h2⟩
  · exact .inr (.inl ⟨by omega, h2⟩)
  · exact .inr (.inr (.inl ⟨by omega, h2⟩))
  · exact .inr (.inr (.inr ⟨by omega, h2⟩))
section
variable {S : Nat → Prop} {w : World}
theorem aFk : ∀ (l : List Rf), RL S w (l.map xV) (vT l)
 | [] => jL
 | r :: l => by
  have : vT (r :: l) = qj r ++ vT l := rfl
  rw [List.map_cons, this]
  exact zi (aE8 (zi (c1 := [_]) (aB5 rfl) (zi (c1 := [_]) (aB5 rfl) (zi (c1 := [_]) (aB5 rfl) (zi (c1 := [_]) (aB5 rfl) jL))))) (aFk l)
end
section
variable {H : Type} {enc : TypeId × Value → H} {P : Program} {w : World} {base : Nat} {held : Bool}
theorem aHN {t e : TypeId} {f0 f1 f2 f3 : Field} {A : Option Addr} {n c : Nat} {d : DataW H} {p : List MemPlace} (ht : P.underlying t = some (.slice e)) (he : P.underlying e = some (.struct #[f0, f1, f2, f3]))
 (hone : oneCellFields P #[f0, f1, f2, f3] = true) (hC : P.cellsOf e = 4) (h0 : P.underlying f0.type = some .string) (h1 : P.underlying f1.type = some (.int .i64)) (h2 : P.underlying f2.type = some (.int .i64)) (h3 : P.underlying f3.type = some .bool) (h : DataW.Trod enc P w base (fun _ => true) held t (.slice A n c) d p) :
 ∃ l : List Rf, (∀ hp B V, RV (InW w) w hp B V (.lst 4 (l.map xV)) (.slice A n c)) ∧ l.length ≤ maxLen ∧ ∀ r ∈ l, r.name.size ≤ maxLen := by
 have hcap := aB1 ht h
 obtain ⟨hn, hf⟩ := jf ht he hone hC (by simp) h
 rcases Nat.eq_zero_or_pos n with h | hpos
 · subst h
   refine ⟨[], fun hp B V => ?_, Nat.zero_le _, fun c hc => by cases hc⟩
   simp only [List.map_nil]
   unfold RV RA
   exact ⟨_, _, rfl, Nat.zero_le _, hcap.2, by simp, by omega, .inl rfl⟩
 obtain ⟨b, off, rfl, hlt, hi⟩ := hf hpos
 obtain ⟨l, hl, hq⟩ := aAl (α := Rf) n (fun i x => w.cell? ⟨b, off + (i * 4 + 0), none⟩ = some (.string x.name) ∧ w.cell? ⟨b, off + (i * 4 + 1), none⟩ = some (.int .i64 x.head) ∧ w.cell? ⟨b, off + (i * 4 + 2), none⟩ = some (.int .i64 x.ver) ∧ w.cell? ⟨b, off + (i * 4 + 3), none⟩ = some (.bool x.gone) ∧ x.name.size ≤ maxLen) (fun i hin => by
  obtain ⟨k, hk⟩ := hi i hin
  obtain ⟨v0, y0, c0, t0⟩ := hk 0 f0 rfl
  obtain ⟨v1, y1, c1, t1⟩ := hk 1 f1 rfl
  obtain ⟨v2, y2, c2, t2⟩ := hk 2 f2 rfl
  obtain ⟨v3, y3, c3, t3⟩ := hk 3 f3 rfl
  obtain ⟨s, hs, _, hsz⟩ := DataW.trod_string h0 t0
  obtain ⟨x, hx, _, _⟩ := DataW.trod_int h1 t1
  obtain ⟨y, hy, _, _⟩ := DataW.trod_int h2 t2
  obtain ⟨g, hg, _⟩ := DataW.trod_bool h3 t3
  simp at hs hx hy hg
  subst hs; subst hx; subst hy; subst hg
  exact ⟨⟨s, x, y, g⟩, c0, c1, c2, c3, hsz⟩)
 refine ⟨l, fun hp B V => ?_, by omega, fun r hr => ?_⟩
 · unfold RV RA
   refine ⟨_, c, by rw [List.length_map, hl], by rw [List.length_map, hl]; exact hcap.1, hcap.2, aIa _, by omega, .inr ⟨b, off, _, rfl, hlt, aFk l, fun j u hu => ?_⟩⟩
   obtain ⟨i, hi', h⟩ := aEb _ j u hu
   obtain ⟨q0, q1, q2, q3, _⟩ := hq i hi'
   rcases h with ⟨rfl, rfl⟩ | ⟨rfl, rfl⟩ | ⟨rfl, rfl⟩ | ⟨rfl, rfl⟩
   · exact q0
   · exact q1
   · exact q2
   · exact q3
 · obtain ⟨i, hi', rfl⟩ := List.getElem_of_mem hr
   exact (hq i hi').2.2.2.2
end
end Go.Proofs.YtodckioppgjbdaaDoor.AM
namespace Go.Proofs.YtodckioppgjbdaaDoor
open Go.RowKit Go.ChangeShapes Go.WideShapes Go.Deep
section
variable {H : Type} {enc : TypeId × Value → H} {P : Program} {w : World} {base : Nat} {held : Bool}
end
end Go.Proofs.YtodckioppgjbdaaDoor
namespace Go.Proofs.YtodckioppgjbdaaDoor.AM
open Go Go.RowKit
end Go.Proofs.YtodckioppgjbdaaDoor.AM
namespace Go.Proofs.YtodckioppgjbdaaDoor.AM
open Go Go.RowKit Go.ChangeShapes Go.WideShapes Go.Deep
structure Opr where
 kind : Int
 frm : Int
 name : ByteArray
 key : ByteArray
 edits : List Edt
structure Bas where
 store : List Cmt
 refs : List Rf
structure Rst where
 code : Int
 com : Int
 val : Int
 keys : List ByteArray
 map : List Ent
def zL (b : Bas) : AV := .agg [.lst 2 (b.store.map xP), .lst 4 (b.refs.map xV)]
def Opr.ok (o : Opr) (N : Nat) : Prop := o.name.size ≤ N ∧ o.key.size ≤ N ∧ o.edits.length ≤ N ∧ ∀ e ∈ o.edits, e.key.size ≤ N
def Rst.ok (r : Rst) (N : Nat) : Prop := r.keys.length ≤ N ∧ (∀ k ∈ r.keys, k.size ≤ N) ∧ r.map.length ≤ N ∧ ∀ e ∈ r.map, e.1.size ≤ N
section
variable {S : Nat → Prop} {w : World}
end
section
variable {H : Type} {enc : TypeId × Value → H} {P : Program} {w : World} {base : Nat} {held : Bool}
theorem aIF {t : TypeId} {fs : Array Field} {cs : Array Value} {d : DataW H} {p : List MemPlace} (ht : P.underlying t = some (.struct fs)) (hone : oneCellFields P fs = true) (hC : P.cellsOf t = fs.size) (h : DataW.Trod enc P w base (fun _ => true) held t (.agg cs) d p) :
 cs.toList.length = fs.size ∧ ∃ k, ∀ (j : Nat) (f : Field), fs[j]? = some f → ∃ (v : Value) (y : DataW H × List MemPlace), cs.toList[j]? = some v ∧ DataW.trod enc P w base (fun _ => true) held k f.type [v] = some y := by
 obtain ⟨fuel, hf⟩ := h
 obtain ⟨ys, n', hn', hy, hlen, hyl, hf⟩ := DataW.trod_struct ht hf
 rw [hC] at hlen
 have hlen' : cs.toList.length = fs.size := by simpa [Value.cells] using hlen
 refine ⟨hlen', n', fun j f hj => ?_⟩
 obtain ⟨ho, hk⟩ := hone_of hone j f hj
 have hjl : j < fs.size := (Array.getElem?_eq_some_iff.1 hj).1
 have hv : cs.toList[j]? = some (cs.toList[j]'(by omega)) := List.getElem?_eq_getElem (by omega)
 have h1 := hf j f hj
 rw [ho, hk] at h1
 have hone' : ((Value.cells (.agg cs)).toList.drop j).take 1 = [cs.toList[j]'(by omega)] := by
  show (cs.toList.drop j).take 1 = _
  rw [List.drop_eq_getElem_cons (by omega)]
  rfl
 rw [hone'] at h1
 have hys : ys[j]? = some (ys[j]'(by omega)) := List.getElem?_eq_getElem (by omega)
 exact ⟨_, _, hv, h1.trans hys⟩
theorem aK8 {α : Type} {l : List α} {a b : α} (h : l.length = 2) (h0 : l[0]? = some a) (h1 : l[1]? = some b) : l = [a, b] := by
 match l, h with
 | [_, _], _ => simp at h0 h1; subst h0 h1; rfl
theorem aFu {t : TypeId} {v : Value} {k : Nat} {y : DataW H × List MemPlace} (hv : (Value.cells v).toList = [v]) (h : DataW.trod enc P w base (fun _ => true) held k t [v] = some y) : DataW.Trod enc P w base (fun _ => true) held t v y.1 y.2 := ⟨k, by rw [hv]; exact h⟩
theorem aKN {hp : Nat → Option OB} {B : Nat → Nat} {V : Nat → Value} {xs : List AV} {cs : Array Value} {l : List Value} (h : cs.toList = l) (hr : RL (InW w) w xs l) : RV (InW w) w hp B V (.agg xs) (.agg cs) := by
 unfold RV; exact ⟨l, by rw [← h], hr⟩
theorem open_bas {t tc te tr : TypeId} {f0 f1 c0f c1f g0 g1 r0 r1 r2 r3 : Field} {e0 : TypeId} {cs : Array Value} {d : DataW H} {p : List MemPlace} (ht : P.underlying t = some (.struct #[f0, f1])) (hone : oneCellFields P #[f0, f1] = true) (hC : P.cellsOf t = 2)
 (u0 : P.underlying f0.type = some (.slice tc)) (uc : P.underlying tc = some (.struct #[c0f, c1f])) (honec : oneCellFields P #[c0f, c1f] = true) (hCc : P.cellsOf tc = 2)
 (h0 : P.underlying c0f.type = some (.slice e0)) (hi0 : P.underlying e0 = some (.int .i64)) (hC0 : P.cellsOf e0 = 1)
 (h1 : P.underlying c1f.type = some (.slice te)) (h2 : P.underlying te = some (.struct #[g0, g1])) (hone1 : oneCellFields P #[g0, g1] = true) (hC1 : P.cellsOf te = 2) (k0 : P.underlying g0.type = some .string) (k1 : P.underlying g1.type = some (.int .i64))
 (u1 : P.underlying f1.type = some (.slice tr)) (ur : P.underlying tr = some (.struct #[r0, r1, r2, r3])) (honer : oneCellFields P #[r0, r1, r2, r3] = true) (hCr : P.cellsOf tr = 4) (q0 : P.underlying r0.type = some .string) (q1 : P.underlying r1.type = some (.int .i64)) (q2 : P.underlying r2.type = some (.int .i64)) (q3 : P.underlying r3.type = some .bool)
 (h : DataW.Trod enc P w base (fun _ => true) held t (.agg cs) d p) : ∃ b : Bas, (∀ hp B V, RV (InW w) w hp B V (zL b) (.agg cs)) ∧ (b.store.length ≤ maxLen ∧ wC maxLen b.store) ∧ b.refs.length ≤ maxLen ∧ ∀ r ∈ b.refs, r.name.size ≤ maxLen := by
 obtain ⟨hl, k, hk⟩ := aIF ht hone hC h
 obtain ⟨v0, y0, c0, t0⟩ := hk 0 f0 rfl
 obtain ⟨v1, y1, c1, t1⟩ := hk 1 f1 rfl
 obtain ⟨A0, n0, c0', rfl⟩ := aAX u0 t0
 obtain ⟨A1, n1, c1', rfl⟩ := aAX u1 t1
 obtain ⟨st, hst, hsm, hsk⟩ := aHL u0 uc honec hCc h0 hi0 hC0 h1 h2 hone1 hC1 k0 k1 (aFu rfl t0)
 obtain ⟨rf, hrf, hrm, hrk⟩ := aHN u1 ur honer hCr q0 q1 q2 q3 (aFu rfl t1)
 have a0 := hst (fun _ => none) (fun _ => 0) (fun _ => undef)
 have a1 := hrf (fun _ => none) (fun _ => 0) (fun _ => undef)
 unfold RV at a0 a1
 exact ⟨⟨st, rf⟩, fun hp B V => aKN (aK8 (by simpa using hl) c0 c1) (zi (c1 := [_]) a0 (zi (c1 := [_]) a1 jL)), ⟨hsm, hsk⟩, hrm, hrk⟩
end
end Go.Proofs.YtodckioppgjbdaaDoor.AM
