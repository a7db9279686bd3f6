/- Texts of the machine over data, folded. -/
import Derived.Test.YtoaifonjemlfcaaKa5
import Derived.Test.YtoaifonjemlfcaaKa6
import Derived.Laws.StructEq
import Derived.ProofKit
import Derived.OpenShut
import Derived.ShutString
set_option linter.unusedVariables false
set_option linter.unusedSimpArgs false
set_option maxRecDepth 100000
namespace Go.Proofs.Ytoaifonjemlfcaa.AM
open Go Go.RowKit
abbrev Cmt := List Int × List Ent
def x9 (c : Cmt) : AV := .agg [.lst 1 (c.1.map yV), .lst 2 (c.2.map zR)]
theorem aHS (cs : List Cmt) : ∀ x ∈ cs.map x9, asz x = 2 := fun x hx => by obtain ⟨e, _, rfl⟩ := List.mem_map.1 hx; rfl
theorem aHT (cs : List Int) : ∀ x ∈ cs.map yV, asz x = 1 := fun x hx => by obtain ⟨e, _, rfl⟩ := List.mem_map.1 hx; rfl
theorem aAf (e : Int) : xk (yV e) := by unfold yV; simp [xk]
def szI (n : Nat) (l : Int) : Int := if l - n < 0 then -1 else l - n
def szC (c : Cmt) (l : Int) : Int := if szI c.1.length l < 0 then -1 else if szL eSz c.2 (szI c.1.length l) < 0 then -1 else szL eSz c.2 (szI c.1.length l)
def szG {α : Type} (g : α → Int → Int) : List α → Int → Int
 | [], l => l
 | e :: es, l => if g e l < 0 then -1 else szG g es (g e l)
def uN (cs : List Cmt) (l : Int) : Int := if l - cs.length < 0 then -1 else szG szC cs (l - cs.length)
theorem aDc {c : Cmt} {l : Int} (h : 0 ≤ szC c l) : szC c l ≤ l ∧ (c.1.length : Int) ≤ l ∧ (c.2.length : Int) ≤ l ∧ ∀ e ∈ c.2, (e.1.size : Int) ≤ l := by
 unfold szC at h ⊢
 by_cases h1 : szI c.1.length l < 0
 · rw [if_pos h1] at h; omega
 · rw [if_neg h1] at h ⊢
   by_cases h2 : szL eSz c.2 (szI c.1.length l) < 0
   · rw [if_pos h2] at h; omega
   · rw [if_neg h2] at h ⊢
     obtain ⟨k1, k2, k3⟩ := aGT h
     have h3 : szI c.1.length l ≤ l ∧ (c.1.length : Int) ≤ l := by unfold szI at h1 ⊢; split at h1 <;> split <;> omega
     exact ⟨by omega, h3.2, by omega, fun e he => by have : (e.1.size : Int) ≤ _ := k3 e he; omega⟩
theorem aDe : ∀ {es : List Cmt} {l : Int}, 0 ≤ szG szC es l → szG szC es l ≤ l ∧ ∀ c ∈ es, (c.1.length : Int) ≤ l ∧ (c.2.length : Int) ≤ l ∧ ∀ e ∈ c.2, (e.1.size : Int) ≤ l
 | [], l, h => ⟨Int.le_refl _, by simp⟩
 | c :: cs, l, h => by
  unfold szG at h ⊢
  split at h
  · omega
  · rename_i hn
    rw [if_neg hn]
    obtain ⟨h1, h2⟩ := aDe h
    obtain ⟨k1, k2⟩ := aDc (by omega : 0 ≤ szC c l)
    refine ⟨by omega, fun x hx => ?_⟩
    rcases List.mem_cons.1 hx with rfl | hx
    · exact k2
    · obtain ⟨q1, q2, q3⟩ := h2 x hx
      exact ⟨by omega, by omega, fun e he => by have := q3 e he; omega⟩
theorem aGz {es : List Cmt} {k : Nat} {l : Int} (h : k < es.length) : szG szC (es.drop k) l = if szC es[k] l < 0 then -1 else szG szC (es.drop (k + 1)) (szC es[k] l) := by
 rw [List.drop_eq_getElem_cons h, szG]
theorem aHg {cs : List Cmt} {l : Int} (h : 0 ≤ uN cs l) : (cs.length : Int) ≤ l ∧ ∀ c ∈ cs, (c.1.length : Int) ≤ l ∧ (c.2.length : Int) ≤ l ∧ ∀ e ∈ c.2, (e.1.size : Int) ≤ l := by
 unfold uN at h
 split at h
 · omega
 · rename_i hn
   obtain ⟨h1, h2⟩ := aDe h
   exact ⟨by omega, fun c hc => by obtain ⟨q1, q2, q3⟩ := h2 c hc; exact ⟨by omega, by omega, fun e he => by have := q3 e he; omega⟩⟩
theorem aCS {P : Program} {Θ : Tab} {s : St} {d : Option Tmp} {ty : TypeId} {pos : String} {after : Array Edge} {g : Option (Nat × Bool)} {t : TypeId} {x y : Operand} {l l' i c : Nat} {p : List Nat} {ob ob' : OB} {q z : AV} (hq : ob.xs[i]? = some q) (hx : s.ev x = .optr l i p c) (ho : s.hp l = some ob) (hg : xJ q p 0 = some (z, c)) (hs : ((Θ.look t).known && (Nat.beq (asz z) (Θ.look t).size && Nat.beq 1 (asz z))) = true) (hy : s.ev y = .own l') (ho' : s.hp l' = some ob') (hn : Nat.beq l l' = false) (hop : ob.e.open_ = true := by rfl) (hsh : ob'.e.shut = true := by rfl) (hok : okL l' = true := by rfl) (hc : cOK y = true := by rfl) :
 Pre P Θ ⟨d, .store t x y, ty, pos, after, g⟩ s ⟨.any, some fun s' => (s'.frz l').set l (some ⟨.s (ob.e.typ.getD 0), ob.sz, ob.xs.set i (zO q p (.lst ob'.sz ob'.xs))⟩)⟩ := by
 simp only [Bool.and_eq_true] at hs
 have hd : s.dat (s.ev y) = .lst ob'.sz ob'.xs := by rw [hy]; simp [St.dat, ho', hsh]
 have hown : yA (s.ev y) = [l'] := by rw [hy]; rfl
 have hda : xG s (s.ev y) = true := by rw [hy]; simp [xG, ho', hsh]
 obtain ⟨t0, he⟩ : ∃ t0, ob.e = .s t0 ∨ ob.e = .z t0 := by
  cases h : ob.e with
  | s t0 => exact ⟨t0, .inl rfl⟩
  | z t0 => exact ⟨t0, .inr rfl⟩
  | _ => rw [h] at hop; cases hop
 have ht : ob.e.typ.getD 0 = t0 := by rcases he with he | he <;> rw [he] <;> rfl
 have hne : l ≠ l' := fun e => by rw [e] at hn; simp at hn
 refine ⟨wD hc, hs.1, l, i, p, c, ob, hx, ho, .inl ⟨t0, q, z, he, hq, hg, Nat.eq_of_beq_eq_true hs.2.1, by rw [hd]; exact Nat.eq_of_beq_eq_true hs.2.2, hda, by rw [hown]; simpa using hne, by rw [hown]; simp [hok], ?_⟩⟩
 rw [hd, hown, ht]; rfl
theorem aBk {s : St} {a t l : Nat} {ob : OB} {x : AV} {Θ : Tab} (h1 : s.sl a = .optr l 0 [] 0) (ho : s.hp l = some ob) (hx : ob.xs[0]? = some x) (hk : ((Θ.look t).known && (Bool.xor (zA x) (Θ.look t).isAgg).not && Nat.beq (asz x) (Θ.look t).size) = true) (hd : (match x with | .v _ | .agg _ | .lst _ _ | .any => True | _ => False)) (hop : ob.e.open_ = true := by rfl) :
 aB6 Θ [.cell a t] ⟨x, []⟩ .ret s := by
 have hr : rvA s (.cell a t) = x := by
  simp only [rvA, h1, ho, hop, hx, cond_true, Option.getD_some]
 simp only [Bool.and_eq_true] at hk
 refine ⟨trivial, [], by simp, trivial, ⟨⟨hk.1.1, by rw [hr]; exact xor_not hk.1.2, by rw [hr]; exact Nat.eq_of_beq_eq_true hk.2, .inl ⟨l, ob, x, h1, ho, .inl ⟨hop, hx⟩⟩⟩, trivial⟩, trivial, ⟨.inl ?_, trivial⟩⟩
 rw [hr]
 cases x <;> first | exact ⟨rfl, rfl⟩ | exact hd.elim
attribute [local irreducible] xM xO yD yu zU Pre ACG
theorem qN {es : List Int} {l : Int} (hm : es.length ≤ maxLen) (h0 : 0 ≤ l) (h1 : l ≤ 1048576) : AC Try.prog 25 [.lst 1 (es.map yV), .v (.int .i64 l)] ⟨.v (.int .i64 (szI es.length l)), []⟩ := by
 unfold maxLen at hm
 unfold szI
 by_cases hn : l - es.length < 0
 · rw [if_pos hn]
   refine qrf Try.func25 Try.ntmps25 Try.results25 ?_; conv => whnf
   repeat ((refine qz ?_; conv => whnf))
   exact xA rfl trivial
 · rw [if_neg hn]
   refine qrf Try.func25 Try.ntmps25 Try.results25 ?_; conv => whnf
   repeat ((refine qz ?_; conv => whnf))
   exact xA rfl trivial
theorem jE {c : Cmt} {l : Int} (hm : c.1.length ≤ maxLen) (hm2 : c.2.length ≤ maxLen) (hk : ∀ e ∈ c.2, e.1.size ≤ maxLen) (h0 : 0 ≤ l) (h1 : l ≤ 1048576) : AC Try.prog 9 [x9 c, .v (.int .i64 l)] ⟨.v (.int .i64 (szC c l)), []⟩ := by
 unfold szC
 by_cases ha : szI c.1.length l < 0
 · rw [if_pos ha]
   refine qrf Try.func9 Try.ntmps9 Try.results9 ?_; conv => whnf
   repeat ((first | refine qz ?_ | refine qc (qN hm h0 h1) ?_); conv => whnf)
   exact xA rfl trivial
 · rw [if_neg ha]
   have hb : szI c.1.length l ≤ 1048576 := by unfold szI at ha ⊢; split <;> omega
   by_cases hn : szL eSz c.2 (szI c.1.length l) < 0
   · rw [if_pos hn]
     refine qrf Try.func9 Try.ntmps9 Try.results9 ?_; conv => whnf
     repeat ((first | refine qz ?_ | refine qc (qN hm h0 h1) ?_ | refine qc (aAY hm2 hk (by omega) hb) ?_); conv => whnf)
     exact xA rfl trivial
   · rw [if_neg hn]
     refine qrf Try.func9 Try.ntmps9 Try.results9 ?_; conv => whnf
     repeat ((first | refine qz ?_ | refine qc (qN hm h0 h1) ?_ | refine qc (aAY hm2 hk (by omega) hb) ?_); conv => whnf)
     exact xA rfl trivial
theorem aCp {es : List Cmt} {l : Int} (hm : es.length ≤ maxLen) (hc : ∀ c ∈ es, c.1.length ≤ maxLen ∧ c.2.length ≤ maxLen ∧ ∀ e ∈ c.2, e.1.size ≤ maxLen) (h0 : 0 ≤ l) (h1 : l ≤ 1048576) : AC Try.prog 35 [.lst 2 (es.map x9), .v (.int .i64 l)] ⟨.v (.int .i64 (uN es l)), []⟩ := by
 unfold maxLen at hm
 by_cases hn : l - es.length < 0
 · rw [uN, if_pos hn]
   refine qrf Try.func35 Try.ntmps35 Try.results35 ?_; conv => whnf
   repeat ((refine qz ?_; conv => whnf))
   exact xA rfl trivial
 · rw [uN, if_neg hn]
   refine qrf Try.func35 Try.ntmps35 Try.results35 ?_; conv => whnf
   repeat ((refine qz ?_; conv => whnf))
   refine xX (ι := { p : Nat × Int // p.1 ≤ es.length ∧ 0 ≤ p.2 ∧ p.2 ≤ l ∧ szG szC (es.drop p.1) p.2 = szG szC es (l - es.length) }) (fun p => ⟨[(0, .lst 2 (es.map x9)), (1, .v (.int .i64 p.1.2)), (5, .v (.int .i64 (p.1.1 : Int)))], []⟩) (fun p => es.length - p.1.1) ⟨(0, l - es.length), by simp, by omega, by omega, rfl⟩ (by exact qle) ?_
   rintro ⟨⟨k, cur⟩, hkl, hc0, hc1, hsz⟩
   simp only at hkl hc0 hc1 hsz ⊢
   conv => whnf
   by_cases hlt : k < es.length
   · have hd := aGz (l := cur) hlt
     rw [hsz] at hd
     obtain ⟨q1, q2, q3⟩ := hc _ (List.getElem_mem hlt)
     by_cases hneg : szC es[k] cur < 0
     · rw [if_pos hneg] at hd
       rw [hd]
       repeat ((first | refine qz ?_ | refine qc (jE q1 q2 q3 hc0 (by omega)) ?_); conv => whnf)
       exact xA rfl trivial
     · rw [if_neg hneg] at hd
       have hle := (aDc (by omega : 0 ≤ szC es[k] cur)).1
       repeat ((first | refine qz ?_ | refine qc (jE q1 q2 q3 hc0 (by omega)) ?_); conv => whnf)
       exact ⟨⟨(k + 1, szC es[k] cur), by simp; omega, by omega, by omega, hd.symm⟩, by exact qle, by simp; omega⟩
   · have hkk : k = es.length := by omega
     rw [hkk, List.drop_length] at hsz
     rw [← hsz]
     repeat ((refine qz ?_; conv => whnf))
     exact xA rfl trivial
theorem aF1 {l : List Int} (hm : l.length ≤ 1048576) : AC Try.prog 29 [.lst 1 (l.map yV)] ⟨.own 0, [⟨3, 1, l.map yV⟩]⟩ := by
 refine qrf Try.func29 Try.ntmps29 Try.results29 ?_; conv => whnf
 repeat (first | (refine qz ?_; conv => whnf) | (refine qr (aDX (n := l.length) (by omega) (by omega) (by simp; rfl) (by simp; rfl) rfl rfl) ?_; conv => whnf))
 have hrow : List.replicate l.length (AV.v (.int .i64 0)) = (l.take 0 ++ List.replicate (l.length - 0) 0).map yV := by simp [yV]
 refine xX (ι := { k : Nat // k ≤ l.length }) (fun k => ⟨[(0, .lst 1 (l.map yV)), (3, .own 8), (4, .v (.int .i64 (k.1 : Int)))], [(8, ⟨3, 1, (l.take k.1 ++ List.replicate (l.length - k.1) 0).map yV⟩)]⟩) (fun k => l.length - k.1) ⟨0, Nat.zero_le _⟩ ⟨⟨congrArg (fun x => some (OB.mk _ _ x)) hrow, trivial⟩, .inl ⟨rfl, rfl⟩, .inl ⟨rfl, rfl⟩, .inl ⟨rfl, rfl⟩, trivial⟩ ?_
 rintro ⟨k, hk⟩
 dsimp only
 conv => whnf
 by_cases hlt : k < l.length
 · have hlt2 : k < (l.take k ++ List.replicate (l.length - k) 0).length := by simp; omega
   have hset := congrArg (List.map yV) (aAc l 0 k hlt)
   rw [List.map_set] at hset
   repeat ((first | refine qz ?_ | refine qp (aDY (by simpa using hlt2) rfl rfl rfl rfl rfl) ?_ | refine qr (zl (jG _ hlt2) rfl rfl rfl rfl rfl rfl) ?_); conv => whnf)
   exact ⟨⟨k + 1, hlt⟩, ⟨⟨congrArg (fun x => some (OB.mk _ _ x)) hset, trivial⟩, .inl ⟨rfl, rfl⟩, .inl ⟨rfl, rfl⟩, .inl ⟨rfl, rfl⟩, trivial⟩, by simp; omega⟩
 · have hkk : k = l.length := by omega
   subst hkk
   repeat ((refine qz ?_; conv => whnf))
   exact aD3 rfl (by show some (OB.mk _ _ _) = _; rw [List.take_length, Nat.sub_self, List.replicate_zero, List.append_nil])
theorem aAZ {c : Cmt} (hm : c.1.length ≤ 1048576) (hm2 : c.2.length ≤ 1048576) : AC Try.prog 11 [x9 c] ⟨x9 c, []⟩ := by
 refine qrf Try.func11 Try.ntmps11 Try.results11 ?_; conv => whnf
 repeat (first | (refine qz ?_; conv => whnf) | (refine qc (aF1 hm) ?_; conv => whnf) | (refine qc (aDq hm2) ?_; conv => whnf) | (refine qr (aCS rfl rfl rfl rfl rfl rfl rfl rfl) ?_; conv => whnf) | (refine qr (zl rfl rfl rfl rfl rfl (by conv => lhs; whnf) rfl) ?_; conv => whnf))
 exact aBk (x := x9 c) rfl rfl rfl rfl trivial
abbrev aEp : Cmt := ([], [])
theorem aCr {l : List Cmt} (hm : l.length ≤ 1048576) (hc : ∀ c ∈ l, c.1.length ≤ 1048576 ∧ c.2.length ≤ 1048576) : AC Try.prog 39 [.lst 2 (l.map x9)] ⟨.own 0, [⟨33, 2, l.map x9⟩]⟩ := by
 refine qrf Try.func39 Try.ntmps39 Try.results39 ?_; conv => whnf
 repeat (first | (refine qz ?_; conv => whnf) | (refine aJM (aDX (n := l.length) (by omega) (by omega) (by simp; rfl) (by simp; rfl) rfl rfl) rfl rfl (fun e => by cases e) (Gh.give 8 rfl (.inr rfl) rfl (Gh.done ?_)); conv => whnf))
 have hrow : List.replicate l.length (AV.agg [.lst 1 [], .lst 2 []]) = (l.take 0 ++ List.replicate (l.length - 0) aEp).map x9 := by simp [x9]
 refine xX (ι := { k : Nat // k ≤ l.length }) (fun k => ⟨[(0, .lst 2 (l.map x9)), (3, .own 8), (4, .v (.int .i64 (k.1 : Int)))], [(8, ⟨33, 2, (l.take k.1 ++ List.replicate (l.length - k.1) aEp).map x9⟩)]⟩) (fun k => l.length - k.1) ⟨0, Nat.zero_le _⟩ ⟨⟨congrArg (fun x => some (OB.mk _ _ x)) hrow, trivial⟩, .inl ⟨rfl, rfl⟩, .inl ⟨rfl, rfl⟩, .inl ⟨rfl, rfl⟩, trivial⟩ ?_
 rintro ⟨k, hk⟩
 dsimp only
 conv => whnf
 by_cases hlt : k < l.length
 · obtain ⟨q1, q2⟩ := hc _ (List.getElem_mem hlt)
   have hlt2 : k < (l.take k ++ List.replicate (l.length - k) aEp).length := by simp; omega
   have hset := congrArg (List.map x9) (aAc l aEp k hlt)
   rw [List.map_set] at hset
   repeat ((first | refine qz ?_ | refine qc (aAZ q1 q2) ?_ | refine qp (aDY (by simpa using hlt2) rfl rfl rfl rfl rfl) ?_ | refine qr (zl (jG _ hlt2) rfl rfl rfl rfl rfl rfl) ?_); conv => whnf)
   exact ⟨⟨k + 1, hlt⟩, ⟨⟨congrArg (fun x => some (OB.mk _ _ x)) hset, trivial⟩, .inl ⟨rfl, rfl⟩, .inl ⟨rfl, rfl⟩, .inl ⟨rfl, rfl⟩, trivial⟩, by simp; omega⟩
 · have hkk : k = l.length := by omega
   subst hkk
   repeat ((refine qz ?_; conv => whnf))
   exact aD3 rfl (by show some (OB.mk _ _ _) = _; rw [List.take_length, Nat.sub_self, List.replicate_zero, List.append_nil])
theorem aFU {l : List Int} (hm : l.length ≤ maxLen) : AC Try.prog 33 [.lst 1 (l.map yV), .lst 1 (l.map yV)] ⟨.v (.bool true), []⟩ := by
 unfold maxLen at hm
 refine qrf Try.func33 Try.ntmps33 Try.results33 ?_; conv => whnf
 repeat ((refine qz ?_; conv => whnf))
 refine xX (ι := { k : Nat // k ≤ l.length }) (fun k => ⟨[(0, .lst 1 (l.map yV)), (1, .lst 1 (l.map yV)), (5, .v (.int .i64 (k.1 : Int)))], []⟩) (fun k => l.length - k.1) ⟨0, Nat.zero_le _⟩ (by exact qle) ?_
 rintro ⟨k, hk⟩
 dsimp only
 conv => whnf
 by_cases hlt : k < l.length
 · repeat ((refine qz ?_; conv => whnf))
   refine .inl ⟨by kernel_rfl, ?_⟩
   conv => whnf
   repeat ((first | refine qz ?_ | refine qp (xQ (aF4 rfl) rfl rfl rfl) ?_); conv => whnf)
   exact ⟨⟨k + 1, hlt⟩, by exact qle, by simp; omega⟩
 · repeat ((refine qz ?_; conv => whnf))
   exact xA rfl trivial
theorem aAX {c : Cmt} (hm : c.1.length ≤ maxLen) (hm2 : c.2.length ≤ maxLen) : AC Try.prog 13 [x9 c, x9 c] ⟨.v (.bool true), []⟩ := by
 have he : decide (c.2 = c.2) = true := by simp
 have hq := aDk (es := c.2) (es' := c.2) hm2 hm2
 rw [he] at hq
 refine qrf Try.func13 Try.ntmps13 Try.results13 ?_; conv => whnf
 repeat ((first | refine qz ?_ | refine qc (aFU hm) ?_ | refine qc (hq) ?_); conv => whnf)
 exact xA rfl trivial
theorem aCi {l : List Cmt} (hm : l.length ≤ maxLen) (hc : ∀ c ∈ l, c.1.length ≤ maxLen ∧ c.2.length ≤ maxLen) : AC Try.prog 47 [.lst 2 (l.map x9), .lst 2 (l.map x9)] ⟨.v (.bool true), []⟩ := by
 unfold maxLen at hm
 refine qrf Try.func47 Try.ntmps47 Try.results47 ?_; conv => whnf
 repeat ((refine qz ?_; conv => whnf))
 refine xX (ι := { k : Nat // k ≤ l.length }) (fun k => ⟨[(0, .lst 2 (l.map x9)), (1, .lst 2 (l.map x9)), (5, .v (.int .i64 (k.1 : Int)))], []⟩) (fun k => l.length - k.1) ⟨0, Nat.zero_le _⟩ (by exact qle) ?_
 rintro ⟨k, hk⟩
 dsimp only
 conv => whnf
 by_cases hlt : k < l.length
 · obtain ⟨q1, q2⟩ := hc _ (List.getElem_mem hlt)
   repeat ((refine qz ?_; conv => whnf))
   refine .inl ⟨by kernel_rfl, ?_⟩
   conv => whnf
   repeat ((first | refine qz ?_ | refine qc (aAX q1 q2) ?_); conv => whnf)
   exact ⟨⟨k + 1, hlt⟩, by exact qle, by simp; omega⟩
 · repeat ((refine qz ?_; conv => whnf))
   exact xA rfl trivial
end Go.Proofs.Ytoaifonjemlfcaa.AM
namespace Go.Proofs.Ytoaifonjemlfcaa.AM
open Go Go.RowKit
section
variable {P : Program} {Θ : Tab} {s : St} {d : Option Tmp} {ty : TypeId} {pos : String} {after : Array Edge} {g : Option (Nat × Bool)}
end
section
variable {s : St} {Θ : Tab}
theorem aI6 {t : Nat} {y : AV} (h : s.sl t = y) (hy : (match y with | .v _ | .agg _ | .lst _ _ | .any => True | _ => False)) : aGu s [] (s.sl t) y := .inl (by cases y <;> first | exact ⟨h, rfl⟩ | exact hy.elim)
end
theorem aGK {P : Program} {w : World} {t : TypeId} {a b : Bool} (d : Nat) (h : P.underlying t = some .bool) : (Op.equalIn (d + 1) t (.bool a) (.bool b)).run P w = .ok (a == b) w := by
 simp [Op.equalIn, run_underlying h]
theorem aHd {P : Program} {w : World} {t : TypeId} {a b : Bool} (h : P.underlying t = some .bool) : (Op.equal t (.bool a) (.bool b)).run P w = .ok (a == b) w := by
 exact aGK 9999 h
theorem wh {P : Program} {t : TypeId} {x y : Operand} {a b : Bool} (h : P.underlying t = some .bool) : yS P .neq t x y (.bool a) (.bool b) (.bool (a != b)) := fun w => by
 simp [eqGuard, binOp, aHd h]; cases a <;> cases b <;> rfl
theorem jR {P : Program} {Θ : Tab} {s : St} {d : Option Tmp} {ty : TypeId} {pos : String} {after : Array Edge} {g : Option (Nat × Bool)} {α : Type} {f : α → AV} {t : TypeId} {x y : Operand} {el sz b h : Nat} {k : IntKind} {z : AV} {xs : List α} (hh : h ≤ xs.length) (ht : Θ.look t = .slice el sz b z) (hx : s.ev x = .lst sz (xs.map f)) (hy : s.ev y = .v (.int k (h : Int))) : Pre P Θ ⟨d, .slice t x none (some y) none, ty, pos, after, g⟩ s ⟨.lst sz ((xs.take h).map f), none⟩ := by
 have := aGp (P := P) (Θ := Θ) (s := s) (d := d) (ty := ty) (pos := pos) (after := after) (g := g) (t := t) (x := x) (lo := none) (hi := some y) (l := 0) (h := h) (xs := xs.map f) (Nat.zero_le _) (by simpa using hh) ht hx rfl ⟨k, hy⟩
 rw [List.drop_zero, ← List.map_take] at this
 exact this
def aAn (n : Nat) (ps : List Int) (i : Nat) : Prop := ∃ h : i < ps.length, 1 ≤ ps[i] ∧ ps[i] ≤ n ∧ ps[i] ∉ ps.take i
def aCe (n : Nat) (ps : List Int) : Prop := ps.length ≤ 2 ∧ (ps.length = 0 ↔ n = 0) ∧ ∀ i, i < ps.length → aAn n ps i
open Classical in
noncomputable def vP (n : Nat) (ps : List Int) : Bool := decide (aCe n ps)
noncomputable def vX (n : Nat) (c : Cmt) : Bool := yK c.2 && vP n c.1
noncomputable def uh : Nat → List Cmt → Bool
 | _, [] => true
 | n, c :: cs => vX n c && uh (n + 1) cs
noncomputable def qy (cs : List Cmt) : Bool := decide (1 ≤ cs.length ∧ cs.length ≤ 60) && uh 0 cs
theorem jS {n : Nat} {ps : List Int} (h : ¬ aCe n ps) : vP n ps = false := by unfold vP; simpa using h
theorem aFy {n : Nat} {ps : List Int} (h : aCe n ps) : vP n ps = true := by unfold vP; simpa using h
theorem aBB {n : Nat} {cs : List Cmt} {k : Nat} (h : k < cs.length) : uh n (cs.drop k) = (vX n cs[k] && uh (n + 1) (cs.drop (k + 1))) := by
 rw [List.drop_eq_getElem_cons h, uh]
theorem aCx : ∀ {cs : List Cmt} {n : Nat}, uh n cs = true → ∀ i (h : i < cs.length), vX (n + i) cs[i] = true
 | [], n, _, i, h => by simp at h
 | c :: cs, n, hb, 0, h => by
  unfold uh at hb
  simp only [Bool.and_eq_true] at hb
  exact hb.1
 | c :: cs, n, hb, i + 1, h => by
  unfold uh at hb
  simp only [Bool.and_eq_true] at hb
  have := aCx hb.2 i (by simpa using h)
  simpa [Nat.add_assoc, Nat.add_comm 1 i] using this
attribute [local irreducible] xM xO yD yu zU Pre ACG
theorem zF {x lo hi : Int} (h : lo ≤ x) (h' : x ≤ hi) : AC Try.prog 21 [.v (.int .i64 x), .v (.int .i64 lo), .v (.int .i64 hi)] ⟨.v (.bool true), []⟩ := by
 refine qrf Try.func21 Try.ntmps21 Try.results21 ?_; conv => whnf
 repeat ((refine qz ?_; conv => whnf))
 exact xA rfl trivial
theorem kC {x lo hi : Int} (h : ¬ (lo ≤ x ∧ x ≤ hi)) : AC Try.prog 21 [.v (.int .i64 x), .v (.int .i64 lo), .v (.int .i64 hi)] ⟨.v (.bool false), []⟩ := by
 by_cases h1 : lo ≤ x
 · refine qrf Try.func21 Try.ntmps21 Try.results21 ?_; conv => whnf
   repeat ((refine qz ?_; conv => whnf))
   exact xA rfl trivial
 · refine qrf Try.func21 Try.ntmps21 Try.results21 ?_; conv => whnf
   repeat ((refine qz ?_; conv => whnf))
   exact xA rfl trivial
theorem aCm {pre : List Cmt} {c : Cmt} (hn : pre.length ≤ maxLen) (hm : c.1.length ≤ maxLen) (hm2 : c.2.length ≤ maxLen) (hk : ∀ e ∈ c.2, e.1.size ≤ maxLen) : AC Try.prog 74 [.lst 2 (pre.map x9), x9 c] ⟨.v (.bool (vX pre.length c)), []⟩ := by
 have hn' := hn
 unfold maxLen at hn'
 unfold vX
 cases hmo : yK c.2 with
 | false =>
  refine qrf Try.func74 Try.ntmps74 Try.results74 ?_; conv => whnf
  repeat ((first | refine qz ?_ | refine qc (vS hmo hm2 hk) ?_); conv => whnf)
  exact xA rfl trivial
 | true =>
  rw [Bool.true_and]
  by_cases h2 : c.1.length ≤ 2
  case neg =>
   rw [jS (fun h => h2 h.1)]
   refine qrf Try.func74 Try.ntmps74 Try.results74 ?_; conv => whnf
   repeat ((first | refine qz ?_ | refine qc (vS hmo hm2 hk) ?_); conv => whnf)
   exact xA rfl trivial
  by_cases h3 : c.1.length = 0 ↔ pre.length = 0
  case neg =>
   rw [jS (fun h => h3 h.2.1)]
   by_cases h4 : c.1.length = 0
   · have h5 : ¬ pre.length = 0 := fun e => h3 ⟨fun _ => e, fun _ => h4⟩
     refine qrf Try.func74 Try.ntmps74 Try.results74 ?_; conv => whnf
     repeat ((first | refine qz ?_ | refine qc (vS hmo hm2 hk) ?_ | refine qp (xQ (wh Try.underlying4) rfl rfl rfl) ?_); conv => whnf)
     exact xA rfl trivial
   · have h5 : pre.length = 0 := Classical.byContradiction fun e => h3 ⟨fun q => absurd q h4, fun q => absurd q e⟩
     refine qrf Try.func74 Try.ntmps74 Try.results74 ?_; conv => whnf
     repeat ((first | refine qz ?_ | refine qc (vS hmo hm2 hk) ?_ | refine qp (xQ (wh Try.underlying4) rfl rfl rfl) ?_); conv => whnf)
     exact xA rfl trivial
  have fin : ∀ k, k ≤ c.1.length → ¬ k < c.1.length → (∀ i, i < k → aAn pre.length c.1 i) → vP pre.length c.1 = true := fun k h1 h2' h3' => aFy ⟨h2, h3, fun i hi => h3' i (by omega)⟩
  have bad : ∀ k, k < c.1.length → ¬ aAn pre.length c.1 k → vP pre.length c.1 = false := fun k h1 h2' => jS (fun h => h2' (h.2.2 k h1))
  by_cases h4 : c.1.length = 0
  · have h5 : pre.length = 0 := h3.1 h4
    rw [fin 0 (by omega) (by omega) (fun i h => by omega)]
    refine qrf Try.func74 Try.ntmps74 Try.results74 ?_; conv => whnf
    repeat ((first | refine qz ?_ | refine qc (vS hmo hm2 hk) ?_ | refine qp (xQ (wh Try.underlying4) rfl rfl rfl) ?_); conv => whnf)
    refine xX (ι := Unit) (fun _ => ⟨[(5, .v (.int .i64 (c.1.length : Int))), (6, .v (.int .i64 0))], []⟩) (fun _ => 0) () ⟨trivial, .inl ⟨rfl, rfl⟩, .inl ⟨rfl, rfl⟩, trivial⟩ ?_
    rintro ⟨⟩
    conv => whnf
    repeat ((refine qz ?_; conv => whnf))
    exact xA rfl trivial
  · have h5 : ¬ pre.length = 0 := fun e => h4 (h3.2 e)
    refine qrf Try.func74 Try.ntmps74 Try.results74 ?_; conv => whnf
    repeat ((first | refine qz ?_ | refine qc (vS hmo hm2 hk) ?_ | refine qp (xQ (wh Try.underlying4) rfl rfl rfl) ?_); conv => whnf)
    refine xX (ι := { k : Nat // k ≤ c.1.length ∧ ∀ i, i < k → aAn pre.length c.1 i }) (fun k => ⟨[(0, .lst 2 (pre.map x9)), (3, .optr 4 0 [] 0), (5, .v (.int .i64 (c.1.length : Int))), (6, .v (.int .i64 (k.1 : Int)))], [(4, ⟨33, 2, [x9 c]⟩)]⟩) (fun k => c.1.length - k.1) ⟨0, Nat.zero_le _, fun i h => by omega⟩ ⟨⟨rfl, trivial⟩, .inl ⟨rfl, rfl⟩, .inl ⟨rfl, rfl⟩, .inl ⟨rfl, rfl⟩, .inl ⟨rfl, rfl⟩, trivial⟩ ?_
    rintro ⟨k, hk', hg⟩
    dsimp only at hk' hg ⊢
    conv => whnf
    by_cases hlt : k < c.1.length
    case neg =>
     rw [fin k hk' hlt hg]
     repeat ((refine qz ?_; conv => whnf))
     exact xA rfl trivial
    have h0 : 0 < c.1.length := by omega
    by_cases hin : 1 ≤ c.1[k] ∧ c.1[k] ≤ (pre.length : Int)
    case neg =>
     rw [bad k hlt (fun ⟨_, q1, q2, _⟩ => hin ⟨q1, q2⟩)]
     repeat ((refine qz ?_; conv => whnf))
     refine .inl ⟨by kernel_rfl, ?_⟩
     conv => whnf
     repeat ((first | refine qz ?_ | refine qc (kC hin) ?_); conv => whnf)
     exact xA rfl trivial
    by_cases hk0 : k = 0
    · subst hk0
      repeat ((refine qz ?_; conv => whnf))
      refine .inl ⟨by kernel_rfl, ?_⟩
      conv => whnf
      repeat ((first | refine qz ?_ | refine qc (zF hin.1 hin.2) ?_); conv => whnf)
      exact ⟨⟨0 + 1, hlt, fun i hi => by
       have : i = 0 := by omega
       subst this; exact ⟨hlt, hin.1, hin.2, by simp⟩⟩, by exact qle, by simp; omega⟩
    · have hk1 : k = 1 := by omega
      subst hk1
      have htk : c.1.take 1 = [c.1[0]] := by
       rw [show (1 : Nat) = 0 + 1 from rfl, List.take_succ_eq_append_getElem h0]; simp
      by_cases hne : c.1[1] = c.1[0]
      · rw [bad 1 hlt (fun ⟨_, _, _, q⟩ => q (by rw [htk, hne]; simp))]
        repeat ((refine qz ?_; conv => whnf))
        refine .inl ⟨by kernel_rfl, ?_⟩
        conv => whnf
        repeat ((first | refine qz ?_ | refine qc (zF hin.1 hin.2) ?_ | refine qp (ku (j := 0) (jG _ h0) rfl rfl rfl) ?_); conv => whnf)
        exact xA rfl trivial
      · repeat ((refine qz ?_; conv => whnf))
        refine .inl ⟨by kernel_rfl, ?_⟩
        conv => whnf
        repeat ((first | refine qz ?_ | refine qc (zF hin.1 hin.2) ?_ | refine qp (ku (j := 0) (jG _ h0) rfl rfl rfl) ?_); conv => whnf)
        exact ⟨⟨1 + 1, hlt, fun i hi => by
         rcases Nat.lt_or_ge i 1 with h | h
         · exact hg i h
         · have : i = 1 := by omega
           subst this; exact ⟨hlt, hin.1, hin.2, by rw [htk]; simpa using hne⟩⟩, by exact qle, by simp; omega⟩
theorem aG0 {cs : List Cmt} (hn : cs.length ≤ maxLen) (hc : ∀ c ∈ cs, c.1.length ≤ maxLen ∧ c.2.length ≤ maxLen ∧ ∀ e ∈ c.2, e.1.size ≤ maxLen) : AC Try.prog 62 [.lst 2 (cs.map x9)] ⟨.v (.bool (qy cs)), []⟩ := by
 have hn' := hn
 unfold maxLen at hn'
 unfold qy
 by_cases hin : (1 : Int) ≤ (cs.length : Int) ∧ (cs.length : Int) ≤ 60
 case neg =>
  have : decide (1 ≤ cs.length ∧ cs.length ≤ 60) = false := by simp; omega
  rw [this, Bool.false_and]
  refine qrf Try.func62 Try.ntmps62 Try.results62 ?_; conv => whnf
  repeat ((first | refine qz ?_ | refine qc (kC hin) ?_); conv => whnf)
  exact xA rfl trivial
 have : decide (1 ≤ cs.length ∧ cs.length ≤ 60) = true := by simp; omega
 rw [this, Bool.true_and]
 refine qrf Try.func62 Try.ntmps62 Try.results62 ?_; conv => whnf
 repeat ((first | refine qz ?_ | refine qc (zF hin.1 hin.2) ?_); conv => whnf)
 refine xX (ι := { k : Nat // k ≤ cs.length ∧ uh k (cs.drop k) = uh 0 cs }) (fun k => ⟨[(0, .lst 2 (cs.map x9)), (3, .v (.int .i64 (k.1 : Int)))], []⟩) (fun k => cs.length - k.1) ⟨0, Nat.zero_le _, rfl⟩ (by exact qle) ?_
 rintro ⟨k, hk', hd⟩
 dsimp only at hk' hd ⊢
 conv => whnf
 by_cases hlt : k < cs.length
 case neg =>
  rw [← hd, List.drop_eq_nil_of_le (by omega)]
  repeat ((refine qz ?_; conv => whnf))
  exact xA rfl trivial
 obtain ⟨q1, q2, q3⟩ := hc _ (List.getElem_mem hlt)
 rw [aBB hlt] at hd
 have hl : (cs.take k).length = k := by simp; omega
 have hac := aCm (pre := cs.take k) (c := cs[k]) (by omega) q1 q2 q3
 rw [hl] at hac
 cases hb : vX k cs[k] with
 | false =>
  rw [hb, Bool.false_and] at hd
  rw [hb] at hac
  rw [← hd]
  repeat ((refine qz ?_; conv => whnf))
  refine .inl ⟨by kernel_rfl, ?_⟩
  conv => whnf
  repeat ((first | refine qz ?_ | refine qc (hac) ?_ | refine qp (jR (h := k) (xs := cs) (f := x9) (by omega) rfl rfl rfl) ?_); conv => whnf)
  exact xA rfl trivial
 | true =>
  rw [hb, Bool.true_and] at hd
  rw [hb] at hac
  repeat ((refine qz ?_; conv => whnf))
  refine .inl ⟨by kernel_rfl, ?_⟩
  conv => whnf
  repeat ((first | refine qz ?_ | refine qc (hac) ?_ | refine qp (jR (h := k) (xs := cs) (f := x9) (by omega) rfl rfl rfl) ?_); conv => whnf)
  exact ⟨⟨k + 1, hlt, hd⟩, by exact qle, by simp; omega⟩
end Go.Proofs.Ytoaifonjemlfcaa.AM
namespace Go.Proofs.Ytoaifonjemlfcaa.AM
open Go Go.RowKit
structure Rf where
 name : ByteArray
 head : Int
 ver : Int
 gone : Bool
def xq (r : Rf) : AV := .agg [.v (.string r.name), .v (.int .i64 r.head), .v (.int .i64 r.ver), .v (.bool r.gone)]
theorem aHU (es : List Rf) : ∀ x ∈ es.map xq, asz x = 4 := fun x hx => by obtain ⟨e, _, rfl⟩ := List.mem_map.1 hx; rfl
theorem aAg (e : Rf) : xk (xq e) := by unfold xq; simp [xk, yc]
theorem aHc {a b : Rf} : a = b ↔ a.name = b.name ∧ a.head = b.head ∧ a.ver = b.ver ∧ a.gone = b.gone := by
 cases a; cases b; simp
abbrev rSz (e : Rf) : Nat := e.name.size
abbrev aFK : Rf := ⟨ByteArray.empty, 0, 0, false⟩
attribute [local irreducible] xM xO yD yu zU Pre ACG
theorem aCq {e : Rf} {l : Int} (hk : e.name.size ≤ maxLen) (h0 : 0 ≤ l) (h1 : l ≤ 1048576) : AC Try.prog 61 [xq e, .v (.int .i64 l)] ⟨.v (.int .i64 (if l - e.name.size < 0 then -1 else l - e.name.size)), []⟩ := by
 unfold maxLen at hk
 by_cases hn : l - e.name.size < 0
 · rw [if_pos hn]
   refine qrf Try.func61 Try.ntmps61 Try.results61 ?_; conv => whnf
   repeat ((refine qz ?_; conv => whnf))
   exact xA rfl trivial
 · rw [if_neg hn]
   refine qrf Try.func61 Try.ntmps61 Try.results61 ?_; conv => whnf
   repeat ((refine qz ?_; conv => whnf))
   exact xA rfl trivial
theorem aFZ {es : List Rf} {l : Int} (hm : es.length ≤ maxLen) (hk : ∀ e ∈ es, e.name.size ≤ maxLen) (h0 : 0 ≤ l) (h1 : l ≤ 1048576) : AC Try.prog 36 [.lst 4 (es.map xq), .v (.int .i64 l)] ⟨.v (.int .i64 (szL rSz es l)), []⟩ := by
 unfold maxLen at hm
 by_cases hn : l - es.length < 0
 · rw [szL, if_pos hn]
   refine qrf Try.func36 Try.ntmps36 Try.results36 ?_; conv => whnf
   repeat ((refine qz ?_; conv => whnf))
   exact xA rfl trivial
 · rw [szL, if_neg hn]
   refine qrf Try.func36 Try.ntmps36 Try.results36 ?_; conv => whnf
   repeat ((refine qz ?_; conv => whnf))
   refine xX (ι := { p : Nat × Int // p.1 ≤ es.length ∧ 0 ≤ p.2 ∧ p.2 ≤ l ∧ szF rSz (es.drop p.1) p.2 = szF rSz es (l - es.length) }) (fun p => ⟨[(0, .lst 4 (es.map xq)), (1, .v (.int .i64 p.1.2)), (5, .v (.int .i64 (p.1.1 : Int)))], []⟩) (fun p => es.length - p.1.1) ⟨(0, l - es.length), by simp, by omega, by omega, rfl⟩ (by exact qle) ?_
   rintro ⟨⟨k, cur⟩, hkl, hc0, hc1, hsz⟩
   simp only at hkl hc0 hc1 hsz ⊢
   conv => whnf
   by_cases hlt : k < es.length
   · have hd := aDd (g := rSz) (l := cur) hlt
     rw [hsz] at hd
     by_cases hneg : cur - (es[k]).name.size < 0
     · rw [if_pos hneg] at hd
       rw [hd]
       repeat (first | (refine qz ?_; conv => whnf) | (refine qp (ql (aCq (hk _ (List.getElem_mem hlt)) (by omega) (by omega)) rfl (.inl rfl) trivial rfl rfl) ?_; rw [if_pos hneg]; conv => whnf))
       exact xA rfl trivial
     · rw [if_neg hneg] at hd
       repeat (first | (refine qz ?_; conv => whnf) | (refine qp (ql (aCq (hk _ (List.getElem_mem hlt)) (by omega) (by omega)) rfl (.inl rfl) trivial rfl rfl) ?_; rw [if_neg hneg]; conv => whnf))
       exact ⟨⟨(k + 1, cur - (es[k]).name.size), by simp; omega, by omega, by omega, hd.symm⟩, by exact qle, by simp; omega⟩
   · have hkk : k = es.length := by omega
     rw [hkk, List.drop_length] at hsz
     rw [← hsz]
     repeat ((refine qz ?_; conv => whnf))
     exact xA rfl trivial
theorem aG7 {c : Rf} : AC Try.prog 64 [xq c] ⟨xq c, []⟩ := by
 refine qrf Try.func64 Try.ntmps64 Try.results64 ?_; conv => whnf
 repeat (first | (refine qz ?_; conv => whnf) | (refine qr (zl rfl rfl rfl rfl rfl rfl rfl) ?_; conv => whnf) | (refine qr (zl rfl rfl rfl rfl rfl (by conv => lhs; whnf) rfl) ?_; conv => whnf))
 exact aBk (x := xq c) rfl rfl rfl rfl trivial
theorem aF2 {l : List Rf} (hm : l.length ≤ 1048576) : AC Try.prog 40 [.lst 4 (l.map xq)] ⟨.own 0, [⟨86, 4, l.map xq⟩]⟩ := by
 refine qrf Try.func40 Try.ntmps40 Try.results40 ?_; conv => whnf
 repeat (first | (refine qz ?_; conv => whnf) | (refine qr (aDX (n := l.length) (by omega) (by omega) (by simp; rfl) (by simp; rfl) rfl rfl) ?_; conv => whnf))
 have hrow : List.replicate l.length (AV.agg [zS, zI, zI, zB]) = (l.take 0 ++ List.replicate (l.length - 0) aFK).map xq := by simp [xq]
 refine xX (ι := { k : Nat // k ≤ l.length }) (fun k => ⟨[(0, .lst 4 (l.map xq)), (3, .own 8), (4, .v (.int .i64 (k.1 : Int)))], [(8, ⟨86, 4, (l.take k.1 ++ List.replicate (l.length - k.1) aFK).map xq⟩)]⟩) (fun k => l.length - k.1) ⟨0, Nat.zero_le _⟩ ⟨⟨congrArg (fun x => some (OB.mk _ _ x)) hrow, trivial⟩, .inl ⟨rfl, rfl⟩, .inl ⟨rfl, rfl⟩, .inl ⟨rfl, rfl⟩, trivial⟩ ?_
 rintro ⟨k, hk⟩
 dsimp only
 conv => whnf
 by_cases hlt : k < l.length
 · have hlt2 : k < (l.take k ++ List.replicate (l.length - k) aFK).length := by simp; omega
   have hset := congrArg (List.map xq) (aAc l aFK k hlt)
   rw [List.map_set] at hset
   repeat ((first | refine qz ?_ | refine qc (aG7 (c := l[k])) ?_ | refine qp (aDY (by simpa using hlt2) rfl rfl rfl rfl rfl) ?_ | refine qr (zl (jG _ hlt2) rfl rfl rfl rfl rfl rfl) ?_); conv => whnf)
   exact ⟨⟨k + 1, hlt⟩, ⟨⟨congrArg (fun x => some (OB.mk _ _ x)) hset, trivial⟩, .inl ⟨rfl, rfl⟩, .inl ⟨rfl, rfl⟩, .inl ⟨rfl, rfl⟩, trivial⟩, by simp; omega⟩
 · have hkk : k = l.length := by omega
   subst hkk
   repeat ((refine qz ?_; conv => whnf))
   exact aD3 rfl (by show some (OB.mk _ _ _) = _; rw [List.take_length, Nat.sub_self, List.replicate_zero, List.append_nil])
theorem aGX {c : Rf} : AC Try.prog 69 [xq c, xq c] ⟨.v (.bool true), []⟩ := by
 have hb : (c.gone != c.gone) = false := by simp
 refine qrf Try.func69 Try.ntmps69 Try.results69 ?_; conv => whnf
 repeat (first | (refine qp (xQ (aAF rfl) rfl rfl rfl) ?_; conv => whnf) | (refine qz ?_; conv => whnf) | (refine qp (xQ (wh Try.underlying4) rfl rfl rfl) ?_; rw [hb]; conv => whnf))
 exact xA rfl trivial
theorem aFV {l : List Rf} (hm : l.length ≤ maxLen) : AC Try.prog 48 [.lst 4 (l.map xq), .lst 4 (l.map xq)] ⟨.v (.bool true), []⟩ := by
 unfold maxLen at hm
 refine qrf Try.func48 Try.ntmps48 Try.results48 ?_; conv => whnf
 repeat ((refine qz ?_; conv => whnf))
 refine xX (ι := { k : Nat // k ≤ l.length }) (fun k => ⟨[(0, .lst 4 (l.map xq)), (1, .lst 4 (l.map xq)), (5, .v (.int .i64 (k.1 : Int)))], []⟩) (fun k => l.length - k.1) ⟨0, Nat.zero_le _⟩ (by exact qle) ?_
 rintro ⟨k, hk⟩
 dsimp only
 conv => whnf
 by_cases hlt : k < l.length
 · repeat ((refine qz ?_; conv => whnf))
   refine .inl ⟨by kernel_rfl, ?_⟩
   conv => whnf
   repeat ((first | refine qz ?_ | refine qc (aGX (c := l[k])) ?_); conv => whnf)
   exact ⟨⟨k + 1, hlt⟩, by exact qle, by simp; omega⟩
 · repeat ((refine qz ?_; conv => whnf))
   exact xA rfl trivial
end Go.Proofs.Ytoaifonjemlfcaa.AM
namespace Go.Proofs.Ytoaifonjemlfcaa.AM
open Go Go.RowKit
abbrev okN (s : ByteArray) : Bool := Nm.nameOK s.data.toList
def vz (r : Rf) : Bool := okN r.name && (decide (1 ≤ r.ver ∧ r.ver ≤ 1000000) && (if r.gone = true then decide (r.head = 0) else decide (1 ≤ r.head ∧ r.head ≤ 60)))
def rAt : List Rf → ByteArray → Nat → Int
 | [], _, _ => -1
 | y :: l, x, k => if y.name = x then k else rAt l x (k + 1)
theorem aD1 {l : List Rf} {x : ByteArray} {k : Nat} (h : k < l.length) : rAt (l.drop k) x k = if l[k].name = x then (k : Int) else rAt (l.drop (k + 1)) x (k + 1) := by
 rw [List.drop_eq_getElem_cons h, rAt]
theorem qD : ∀ (l : List Rf) (x : ByteArray) (k : Nat), (rAt l x k = -1 ∧ ∀ i (h : i < l.length), l[i].name ≠ x) ∨ ∃ j, ∃ h : j < l.length, rAt l x k = ((k + j : Nat) : Int) ∧ l[j].name = x ∧ ∀ i (hi : i < j), (l[i]'(by omega)).name ≠ x
 | [], x, k => .inl ⟨rfl, fun i h => by simp at h⟩
 | y :: l, x, k => by
  unfold rAt
  by_cases e : y.name = x
  · rw [if_pos e]; exact .inr ⟨0, by simp, by simp, e, fun i h => by omega⟩
  · rw [if_neg e]
    rcases qD l x (k + 1) with ⟨h1, h2⟩ | ⟨j, hj, h1, h2, h3⟩
    · refine .inl ⟨h1, fun i h => ?_⟩
      cases i with
      | zero => exact e
      | succ i => exact h2 i (by simpa using h)
    · refine .inr ⟨j + 1, by simpa using hj, by rw [h1]; omega, h2, fun i h => ?_⟩
      cases i with
      | zero => exact e
      | succ i => exact h3 i (by omega)
theorem aD2 {l : List Rf} {i : Nat} (h : i < l.length) : rAt l l[i].name 0 = (i : Int) ↔ rAt (l.take i) l[i].name 0 < 0 := by
 rcases qD (l.take i) l[i].name 0 with ⟨h1, h2⟩ | ⟨j, hj, h1, h2, h3⟩
 · rw [h1]
   refine ⟨fun _ => by omega, fun _ => ?_⟩
   rcases qD l l[i].name 0 with ⟨k1, k2⟩ | ⟨j, hj, k1, k2, k3⟩
   · exact absurd rfl (k2 i h)
   · rw [k1]
     rcases Nat.lt_trichotomy j i with q | q | q
     · exact absurd (by rw [List.getElem_take]; exact k2) (h2 j (by simp; omega))
     · omega
     · exact absurd rfl (k3 i q)
 · rw [h1]
   have hji : j < i := by simp at hj; omega
   refine ⟨fun e => ?_, fun e => by omega⟩
   rcases qD l l[i].name 0 with ⟨k1, k2⟩ | ⟨j', hj', k1, k2, k3⟩
   · omega
   · rw [k1] at e
     have : j' = i := by omega
     subst this
     exact absurd (by rw [← h2, List.getElem_take]) (k3 j hji)
def aAp (l : List Rf) (i : Nat) : Prop := ∃ h : i < l.length, vz l[i] = true ∧ rAt (l.take i) l[i].name 0 < 0
open Classical in
noncomputable def vH (l : List Rf) : Bool := decide (l.length ≤ 8 ∧ ∀ i, i < l.length → aAp l i)
theorem jW {l : List Rf} (h : ¬ (l.length ≤ 8 ∧ ∀ i, i < l.length → aAp l i)) : vH l = false := by unfold vH; simpa using h
theorem aE1 {l : List Rf} (h : l.length ≤ 8 ∧ ∀ i, i < l.length → aAp l i) : vH l = true := by unfold vH; simpa using h
theorem aGt {l : List Rf} (h : vH l = true) : l.length ≤ 8 ∧ ∀ i, i < l.length → aAp l i := by unfold vH at h; simpa using h
theorem aIO : ∀ vs w, (callFunc 70 vs).run Try.prog w = .ok (.enter 70 vs) w := vY Try.func70 (by kernel_rfl) (by kernel_rfl)
theorem aIQ : ∀ vs w, (callFunc 85 vs).run Try.prog w = .ok (.enter 85 vs) w := vY Try.func85 (by kernel_rfl) (by kernel_rfl)
theorem zy {s : ByteArray} {b : Bool} (hs : s.size ≤ maxLen) (hb : okN s = b) : AC Try.prog 70 [.v (.string s)] ⟨.v (.bool b), []⟩ :=
 hb ▸ qO aIO rfl fun w S0 vs hS hv => by
  obtain ⟨u', rfl, h2⟩ := aBn hv
  rw [aHD h2]
  exact (aA3 s w hs).mono fun e w' ⟨h1, h2⟩ => ⟨h1, by subst h2; exact Below.refl _ _⟩
theorem uT {s : ByteArray} {b : Bool} (hs : s.size ≤ maxLen) (hb : okN s = b) : AC Try.prog 85 [.v (.string s)] ⟨.v (.bool b), []⟩ :=
 hb ▸ qO aIQ rfl fun w S0 vs hS hv => by
  obtain ⟨u', rfl, h2⟩ := aBn hv
  rw [aHD h2]
  exact (aBS s w hs).mono fun e w' ⟨h1, h2⟩ => ⟨h1, by subst h2; exact Below.refl _ _⟩
attribute [local irreducible] xM xO yD yu zU Pre ACG
theorem aDm {x : Int} (h : 1 ≤ x) (h' : x ≤ 60) : AC Try.prog 86 [.v (.int .i64 x)] ⟨.v (.bool true), []⟩ := by
 refine qrf Try.func86 Try.ntmps86 Try.results86 ?_; conv => whnf
 repeat ((refine qz ?_; conv => whnf))
 exact xA rfl trivial
theorem aDl {x : Int} (h : ¬ (1 ≤ x ∧ x ≤ 60)) : AC Try.prog 86 [.v (.int .i64 x)] ⟨.v (.bool false), []⟩ := by
 by_cases h1 : 1 ≤ x
 · refine qrf Try.func86 Try.ntmps86 Try.results86 ?_; conv => whnf
   repeat ((refine qz ?_; conv => whnf))
   exact xA rfl trivial
 · refine qrf Try.func86 Try.ntmps86 Try.results86 ?_; conv => whnf
   repeat ((refine qz ?_; conv => whnf))
   exact xA rfl trivial
theorem aG1 {l : List Rf} {x : ByteArray} (hm : l.length ≤ maxLen) : AC Try.prog 75 [.lst 4 (l.map xq), .v (.string x)] ⟨.v (.int .i64 (rAt l x 0)), []⟩ := by
 unfold maxLen at hm
 refine qrf Try.func75 Try.ntmps75 Try.results75 ?_; conv => whnf
 refine xX (ι := { k : Nat // k ≤ l.length ∧ rAt (l.drop k) x k = rAt l x 0 }) (fun k => ⟨[(0, .lst 4 (l.map xq)), (1, .v (.string x)), (5, .v (.int .i64 (k.1 : Int)))], []⟩) (fun k => l.length - k.1) ⟨0, Nat.zero_le _, rfl⟩ (by exact qle) ?_
 rintro ⟨k, hk, hd⟩
 dsimp only at hk hd ⊢
 conv => whnf
 by_cases hlt : k < l.length
 · rw [aD1 hlt] at hd
   by_cases he : l[k].name = x
   · rw [if_pos he] at hd
     rw [← hd]
     repeat ((first | refine qz ?_ | refine qp (xQ (aEF he) rfl rfl rfl) ?_); conv => whnf)
     exact xA rfl trivial
   · rw [if_neg he] at hd
     repeat ((first | refine qz ?_ | refine qp (xQ (aEE he) rfl rfl rfl) ?_); conv => whnf)
     exact ⟨⟨k + 1, hlt, hd⟩, by exact qle, by simp; omega⟩
 · rw [← hd, List.drop_eq_nil_of_le (by omega)]
   repeat ((refine qz ?_; conv => whnf))
   exact xA rfl trivial
theorem aBv {r : Rf} {x : ByteArray} {b : Bool} (hb : decide (r.name = x) = b) : AC Try.prog 88 [xq r, .ptr (.v (.string x))] ⟨.v (.bool b), []⟩ := by
 by_cases h : r.name = x
 · rw [← hb, decide_eq_true h]
   refine qrf Try.func88 Try.ntmps88 Try.results88 ?_; conv => whnf
   repeat ((first | refine qz ?_ | refine qp (xQ (aEF h) rfl rfl rfl) ?_); conv => whnf)
   exact xA rfl trivial
 · rw [← hb, decide_eq_false h]
   refine qrf Try.func88 Try.ntmps88 Try.results88 ?_; conv => whnf
   repeat ((first | refine qz ?_ | refine qp (xQ (aEE h) rfl rfl rfl) ?_); conv => whnf)
   exact xA rfl trivial
theorem aDo {l : List Rf} {x : ByteArray} (hm : l.length ≤ maxLen) : AC Try.prog 87 [.lst 4 (l.map xq), .fn 88 [] [.ptr (.v (.string x))]] ⟨.v (.int .i64 (rAt l x 0)), []⟩ := by
 unfold maxLen at hm
 refine qrf Try.func87 Try.ntmps87 Try.results87 ?_; conv => whnf
 repeat ((refine qz ?_; conv => whnf))
 refine xX (ι := { k : Nat // k ≤ l.length ∧ rAt (l.drop k) x k = rAt l x 0 }) (fun k => ⟨[(0, .lst 4 (l.map xq)), (1, .fn 88 [] [.ptr (.v (.string x))]), (7, .v (.int .i64 (l.length : Int))), (8, .v (.int .i64 (k.1 : Int)))], []⟩) (fun k => l.length - k.1) ⟨0, Nat.zero_le _, rfl⟩ (by exact qle) ?_
 rintro ⟨k, hk, hd⟩
 dsimp only at hk hd ⊢
 conv => whnf
 by_cases hlt : k < l.length
 · rw [aD1 hlt] at hd
   by_cases he : l[k].name = x
   · rw [if_pos he] at hd
     rw [← hd]
     repeat ((first | refine qz ?_ | refine qr (aEY (aBv (r := l[k]) (decide_eq_true he)) rfl rfl (.inl rfl) trivial rfl rfl) ?_); conv => whnf)
     exact xA rfl trivial
   · rw [if_neg he] at hd
     repeat ((first | refine qz ?_ | refine qr (aEY (aBv (r := l[k]) (decide_eq_false he)) rfl rfl (.inl rfl) trivial rfl rfl) ?_); conv => whnf)
     exact ⟨⟨k + 1, hlt, hd⟩, by exact qle, by simp; omega⟩
 · rw [← hd, List.drop_eq_nil_of_le (by omega)]
   repeat ((refine qz ?_; conv => whnf))
   exact xA rfl trivial
theorem aC5 {l : List Rf} {x : ByteArray} (hm : l.length ≤ maxLen) : AC Try.prog 78 [.lst 4 (l.map xq), .v (.string x)] ⟨.v (.int .i64 (rAt l x 0)), []⟩ := by
 refine qrf Try.func78 Try.ntmps78 Try.results78 ?_; conv => whnf
 repeat ((first | refine qz ?_ | refine qr (aHI (y := .v _) rfl rfl rfl rfl) ?_); conv => whnf)
 refine qr (xP [] (aDo hm) rfl rfl trivial rfl rfl trivial rfl rfl rfl (.inr ⟨⟨by simp [xk], aEM⟩, by simp⟩) rfl) ?_
 conv => whnf
 repeat ((refine qz ?_; conv => whnf))
 exact xA rfl trivial
end Go.Proofs.Ytoaifonjemlfcaa.AM
namespace Go.Proofs.Ytoaifonjemlfcaa.AM
open Go Go.RowKit
def kM : List Int → Int → Nat → Int
 | [], _, _ => -1
 | y :: l, x, k => if x = y then k else kM l x (k + 1)
theorem aDG : ∀ {l : List Int} {x : Int} {k : Nat}, x ∈ l → 0 ≤ kM l x k
 | y :: l, x, k, h => by
  unfold kM
  split
  · omega
  · rename_i hne
    rcases List.mem_cons.1 h with e | e
    · exact absurd e hne
    · exact aDG e
theorem aDH : ∀ {l : List Int} {x : Int} {k : Nat}, x ∉ l → kM l x k = -1
 | [], x, k, h => rfl
 | y :: l, x, k, h => by
  unfold kM
  rw [List.mem_cons, not_or] at h
  rw [if_neg h.1]; exact aDH h.2
theorem aFe {l : List Int} {x : Int} {k : Nat} (h : k < l.length) : kM (l.drop k) x k = if x = l[k] then (k : Int) else kM (l.drop (k + 1)) x (k + 1) := by
 rw [List.drop_eq_getElem_cons h, kM]
attribute [local irreducible] xM xO yD yu zU Pre ACG
theorem aCk {l : List Int} {x : Int} (hm : l.length ≤ maxLen) : AC Try.prog 89 [.lst 1 (l.map yV), .v (.int .i64 x)] ⟨.v (.int .i64 (kM l x 0)), []⟩ := by
 unfold maxLen at hm
 refine qrf Try.func89 Try.ntmps89 Try.results89 ?_; conv => whnf
 repeat ((refine qz ?_; conv => whnf))
 refine xX (ι := { k : Nat // k ≤ l.length ∧ kM (l.drop k) x k = kM l x 0 }) (fun k => ⟨[(0, .lst 1 (l.map yV)), (1, .v (.int .i64 x)), (7, .v (.int .i64 (l.length : Int))), (8, .v (.int .i64 (k.1 : Int)))], []⟩) (fun k => l.length - k.1) ⟨0, Nat.zero_le _, rfl⟩ (by exact qle) ?_
 rintro ⟨k, hk, hd⟩
 dsimp only at hk hd ⊢
 conv => whnf
 by_cases hlt : k < l.length
 · rw [aFe hlt] at hd
   by_cases he : x = l[k]
   · rw [if_pos he] at hd
     rw [← hd]
     repeat ((refine qz ?_; conv => whnf))
     exact xA rfl trivial
   · rw [if_neg he] at hd
     repeat ((refine qz ?_; conv => whnf))
     exact ⟨⟨k + 1, hlt, hd⟩, by exact qle, by simp; omega⟩
 · rw [← hd, List.drop_eq_nil_of_le (by omega)]
   repeat ((refine qz ?_; conv => whnf))
   exact xA rfl trivial
theorem aC4 {l : List Int} {x : Int} (hm : l.length ≤ maxLen) (h : x ∈ l) : AC Try.prog 82 [.lst 1 (l.map yV), .v (.int .i64 x)] ⟨.v (.bool true), []⟩ := by
 have hge := aDG (k := 0) h
 refine qrf Try.func82 Try.ntmps82 Try.results82 ?_; conv => whnf
 repeat ((first | refine qz ?_ | refine qc (aCk hm) ?_); conv => whnf)
 exact xA rfl trivial
theorem aC3 {l : List Int} {x : Int} (hm : l.length ≤ maxLen) (h : x ∉ l) : AC Try.prog 82 [.lst 1 (l.map yV), .v (.int .i64 x)] ⟨.v (.bool false), []⟩ := by
 have hge := aDH (k := 0) h
 have hac := aCk (x := x) hm
 rw [hge] at hac
 refine qrf Try.func82 Try.ntmps82 Try.results82 ?_; conv => whnf
 repeat ((first | refine qz ?_ | refine qc (hac) ?_); conv => whnf)
 exact xA rfl trivial
theorem aCo {n : Nat} {ps : List Int} (hn : n ≤ 1048576) (hm : ps.length ≤ maxLen) : AC Try.prog 71 [.lst 1 (ps.map yV), .v (.int .i64 ((n : Int) + 1))] ⟨.v (.bool (vP n ps)), []⟩ := by
 have hm' := hm
 unfold maxLen at hm'
 by_cases h2 : ps.length ≤ 2
 case neg =>
  rw [jS (fun h => h2 h.1)]
  refine qrf Try.func71 Try.ntmps71 Try.results71 ?_; conv => whnf
  by_cases h5 : n = 0
  · repeat ((refine qz ?_; conv => whnf))
    exact xA rfl trivial
  · repeat ((refine qz ?_; conv => whnf))
    exact xA rfl trivial
 by_cases h3 : ps.length = 0 ↔ n = 0
 case neg =>
  rw [jS (fun h => h3 h.2.1)]
  by_cases h4 : ps.length = 0
  · have h5 : ¬ n = 0 := fun e => h3 ⟨fun _ => e, fun _ => h4⟩
    refine qrf Try.func71 Try.ntmps71 Try.results71 ?_; conv => whnf
    repeat ((first | refine qz ?_ | refine qp (xQ (wh Try.underlying4) rfl rfl rfl) ?_); conv => whnf)
    exact xA rfl trivial
  · have h5 : n = 0 := Classical.byContradiction fun e => h3 ⟨fun q => absurd q h4, fun q => absurd q e⟩
    refine qrf Try.func71 Try.ntmps71 Try.results71 ?_; conv => whnf
    repeat ((first | refine qz ?_ | refine qp (xQ (wh Try.underlying4) rfl rfl rfl) ?_); conv => whnf)
    exact xA rfl trivial
 have fin : ∀ k, k ≤ ps.length → ¬ k < ps.length → (∀ i, i < k → aAn n ps i) → vP n ps = true := fun k h1 h2' h3' => aFy ⟨h2, h3, fun i hi => h3' i (by omega)⟩
 have bad : ∀ k, k < ps.length → ¬ aAn n ps k → vP n ps = false := fun k h1 h2' => jS (fun h => h2' (h.2.2 k h1))
 have loop : ∀ (s : St), s.le ⟨[(0, .lst 1 (ps.map yV)), (1, .v (.int .i64 ((n : Int) + 1))), (20, .lst 1 (ps.map yV)), (21, .v (.int .i64 (ps.length : Int))), (22, .v (.int .i64 0))], []⟩ → True := fun _ _ => trivial
 by_cases h4 : ps.length = 0
 · have h5 : n = 0 := h3.1 h4
   rw [fin 0 (by omega) (by omega) (fun i h => by omega)]
   refine qrf Try.func71 Try.ntmps71 Try.results71 ?_; conv => whnf
   repeat ((first | refine qz ?_ | refine qp (xQ (wh Try.underlying4) rfl rfl rfl) ?_); conv => whnf)
   refine xX (ι := Unit) (fun _ => ⟨[(21, .v (.int .i64 (ps.length : Int))), (22, .v (.int .i64 0))], []⟩) (fun _ => 0) () ⟨trivial, .inl ⟨rfl, rfl⟩, .inl ⟨rfl, rfl⟩, trivial⟩ ?_
   rintro ⟨⟩
   conv => whnf
   repeat ((refine qz ?_; conv => whnf))
   exact xA rfl trivial
 · have h5 : ¬ n = 0 := fun e => h4 (h3.2 e)
   refine qrf Try.func71 Try.ntmps71 Try.results71 ?_; conv => whnf
   repeat ((first | refine qz ?_ | refine qp (xQ (wh Try.underlying4) rfl rfl rfl) ?_); conv => whnf)
   refine xX (ι := { k : Nat // k ≤ ps.length ∧ ∀ i, i < k → aAn n ps i }) (fun k => ⟨[(0, .lst 1 (ps.map yV)), (1, .v (.int .i64 ((n : Int) + 1))), (20, .lst 1 (ps.map yV)), (21, .v (.int .i64 (ps.length : Int))), (22, .v (.int .i64 (k.1 : Int)))], []⟩) (fun k => ps.length - k.1) ⟨0, Nat.zero_le _, fun i h => by omega⟩ (by exact qle) ?_
   rintro ⟨k, hk', hg⟩
   dsimp only at hk' hg ⊢
   conv => whnf
   by_cases hlt : k < ps.length
   case neg =>
    rw [fin k hk' hlt hg]
    repeat ((refine qz ?_; conv => whnf))
    exact xA rfl trivial
   have hl : (ps.take k).length ≤ maxLen := by unfold maxLen; simp; omega
   by_cases h1 : ps[k] < 1
   · rw [bad k hlt (fun ⟨_, q1, q2, _⟩ => by omega)]
     repeat ((refine qz ?_; conv => whnf))
     exact xA rfl trivial
   by_cases h6 : ps[k] ≥ (n : Int) + 1
   · rw [bad k hlt (fun ⟨_, q1, q2, _⟩ => by omega)]
     repeat ((refine qz ?_; conv => whnf))
     exact xA rfl trivial
   by_cases h7 : ps[k] ∈ ps.take k
   · rw [bad k hlt (fun ⟨_, _, _, q⟩ => q h7)]
     repeat ((first | refine qz ?_ | refine qp (jR (h := k) (xs := ps) (f := yV) (by omega) rfl rfl rfl) ?_ | refine qc (aC4 hl h7) ?_); conv => whnf)
     exact xA rfl trivial
   · repeat ((first | refine qz ?_ | refine qp (jR (h := k) (xs := ps) (f := yV) (by omega) rfl rfl rfl) ?_ | refine qc (aC3 hl h7) ?_); conv => whnf)
     exact ⟨⟨k + 1, hlt, fun i hi => by
      rcases Nat.lt_or_ge i k with h | h
      · exact hg i h
      · have : i = k := by omega
        subst this; exact ⟨hlt, by omega, by omega, h7⟩⟩, by exact qle, by simp; omega⟩
theorem jD {n : Nat} {c : Cmt} (hn : n ≤ 1048576) (hm : c.1.length ≤ maxLen) (hm2 : c.2.length ≤ maxLen) (hk : ∀ e ∈ c.2, e.1.size ≤ maxLen) : AC Try.prog 56 [x9 c, .v (.int .i64 ((n : Int) + 1))] ⟨.v (.bool (vX n c)), []⟩ := by
 have hp := aCo (ps := c.1) hn hm
 unfold vX
 cases hb : vP n c.1 with
 | false =>
  rw [hb] at hp
  rw [Bool.and_false]
  refine qrf Try.func56 Try.ntmps56 Try.results56 ?_; conv => whnf
  repeat ((first | refine qz ?_ | refine qc (hp) ?_); conv => whnf)
  exact xA rfl trivial
 | true =>
  rw [hb] at hp
  rw [Bool.and_true]
  refine qrf Try.func56 Try.ntmps56 Try.results56 ?_; conv => whnf
  repeat ((first | refine qz ?_ | refine qc (hp) ?_ | refine qc (aCj hm2 hk) ?_); conv => whnf)
  exact xA rfl trivial
theorem aCg {cs : List Cmt} (hn : cs.length ≤ maxLen) (hc : ∀ c ∈ cs, c.1.length ≤ maxLen ∧ c.2.length ≤ maxLen ∧ ∀ e ∈ c.2, e.1.size ≤ maxLen) : AC Try.prog 76 [.lst 2 (cs.map x9)] ⟨.v (.bool (decide (cs.length ≤ 60) && uh 0 cs)), []⟩ := by
 have hn' := hn
 unfold maxLen at hn'
 by_cases hin : cs.length ≤ 60
 case neg =>
  have : decide (cs.length ≤ 60) = false := by simpa using hin
  rw [this, Bool.false_and]
  refine qrf Try.func76 Try.ntmps76 Try.results76 ?_; conv => whnf
  repeat ((refine qz ?_; conv => whnf))
  exact xA rfl trivial
 have : decide (cs.length ≤ 60) = true := by simpa using hin
 rw [this, Bool.true_and]
 refine qrf Try.func76 Try.ntmps76 Try.results76 ?_; conv => whnf
 repeat ((refine qz ?_; conv => whnf))
 refine xX (ι := { k : Nat // k ≤ cs.length ∧ uh k (cs.drop k) = uh 0 cs }) (fun k => ⟨[(8, .lst 2 (cs.map x9)), (9, .v (.int .i64 (cs.length : Int))), (10, .v (.int .i64 (k.1 : Int)))], []⟩) (fun k => cs.length - k.1) ⟨0, Nat.zero_le _, rfl⟩ (by exact qle) ?_
 rintro ⟨k, hk', hd⟩
 dsimp only at hk' hd ⊢
 conv => whnf
 by_cases hlt : k < cs.length
 case neg =>
  rw [← hd, List.drop_eq_nil_of_le (by omega)]
  repeat ((refine qz ?_; conv => whnf))
  exact xA rfl trivial
 obtain ⟨q1, q2, q3⟩ := hc _ (List.getElem_mem hlt)
 rw [aBB hlt] at hd
 have hac := jD (n := k) (c := cs[k]) (by omega) q1 q2 q3
 cases hb : vX k cs[k] with
 | false =>
  rw [hb, Bool.false_and] at hd
  rw [hb] at hac
  rw [← hd]
  repeat (first | (refine qz ?_; conv => whnf) | (refine qc (hac) ?_; conv => whnf) | (refine qr (zl rfl rfl rfl rfl rfl (by conv => lhs; whnf) rfl) ?_; conv => whnf))
  exact xA rfl trivial
 | true =>
  rw [hb, Bool.true_and] at hd
  rw [hb] at hac
  repeat (first | (refine qz ?_; conv => whnf) | (refine qc (hac) ?_; conv => whnf) | (refine qr (zl rfl rfl rfl rfl rfl (by conv => lhs; whnf) rfl) ?_; conv => whnf))
  exact ⟨⟨k + 1, hlt, hd⟩, by exact qle, by simp; omega⟩
theorem aDn {cs : List Cmt} (hn : cs.length ≤ maxLen) (hc : ∀ c ∈ cs, c.1.length ≤ maxLen ∧ c.2.length ≤ maxLen ∧ ∀ e ∈ c.2, e.1.size ≤ maxLen) : AC Try.prog 65 [.lst 2 (cs.map x9)] ⟨.v (.bool (qy cs)), []⟩ := by
 have hn' := hn
 unfold maxLen at hn'
 unfold qy
 by_cases h0 : 1 ≤ cs.length
 · have : decide (1 ≤ cs.length ∧ cs.length ≤ 60) = decide (cs.length ≤ 60) := by simp [h0]
   rw [this]
   refine qrf Try.func65 Try.ntmps65 Try.results65 ?_; conv => whnf
   repeat ((first | refine qz ?_ | refine qc (aCg hn hc) ?_); conv => whnf)
   exact xA rfl trivial
 · have : decide (1 ≤ cs.length ∧ cs.length ≤ 60) = false := by simp [h0]
   rw [this, Bool.false_and]
   refine qrf Try.func65 Try.ntmps65 Try.results65 ?_; conv => whnf
   repeat ((refine qz ?_; conv => whnf))
   exact xA rfl trivial
theorem aGH {r : Rf} (h : okN r.name = false) : vz r = false := by simp only [vz, h, Bool.false_and]
theorem aGI {r : Rf} (h : ¬ (1 ≤ r.ver ∧ r.ver ≤ 1000000)) : vz r = false := by simp only [vz, decide_eq_false h, Bool.false_and, Bool.and_false]
theorem aGF {r : Rf} (hn : okN r.name = true) (hv : 1 ≤ r.ver ∧ r.ver ≤ 1000000) (hg : r.gone = true) : vz r = decide (r.head = 0) := by simp only [vz, hn, hg, decide_eq_true hv, Bool.true_and, if_true]
theorem aGG {r : Rf} (hn : okN r.name = true) (hv : 1 ≤ r.ver ∧ r.ver ≤ 1000000) (hg : r.gone = false) : vz r = decide (1 ≤ r.head ∧ r.head ≤ 60) := by
 simp only [vz, hn, hg, decide_eq_true hv, Bool.true_and]; rfl
theorem aG4 {r : Rf} (hs : r.name.size ≤ maxLen) : AC Try.prog 77 [xq r] ⟨.v (.bool (vz r)), []⟩ := by
 cases hn : okN r.name with
 | false =>
  rw [aGH hn]
  refine qrf Try.func77 Try.ntmps77 Try.results77 ?_; conv => whnf
  repeat ((first | refine qz ?_ | refine qc (uT hs hn) ?_); conv => whnf)
  exact xA rfl trivial
 | true =>
  by_cases hv : 1 ≤ r.ver ∧ r.ver ≤ 1000000
  case neg =>
   rw [aGI hv]
   by_cases h1 : 1 ≤ r.ver
   · have h2 : ¬ r.ver ≤ 1000000 := fun e => hv ⟨h1, e⟩
     refine qrf Try.func77 Try.ntmps77 Try.results77 ?_; conv => whnf
     repeat ((first | refine qz ?_ | refine qc (uT hs hn) ?_); conv => whnf)
     exact xA rfl trivial
   · refine qrf Try.func77 Try.ntmps77 Try.results77 ?_; conv => whnf
     repeat ((first | refine qz ?_ | refine qc (uT hs hn) ?_); conv => whnf)
     exact xA rfl trivial
  obtain ⟨v1, v2⟩ := id hv
  cases hg : r.gone with
  | true =>
   rw [aGF hn hv hg]
   by_cases h0 : r.head = 0
   · rw [decide_eq_true h0]
     refine qrf Try.func77 Try.ntmps77 Try.results77 ?_; conv => whnf
     repeat (first | (refine qz ?_; conv => whnf) | (refine qc (uT hs hn) ?_; conv => whnf) | (rw [hg]; conv => whnf))
     exact xA rfl trivial
   · rw [decide_eq_false h0]
     refine qrf Try.func77 Try.ntmps77 Try.results77 ?_; conv => whnf
     repeat (first | (refine qz ?_; conv => whnf) | (refine qc (uT hs hn) ?_; conv => whnf) | (rw [hg]; conv => whnf))
     exact xA rfl trivial
  | false =>
   rw [aGG hn hv hg]
   by_cases h0 : 1 ≤ r.head ∧ r.head ≤ 60
   · rw [decide_eq_true h0]
     refine qrf Try.func77 Try.ntmps77 Try.results77 ?_; conv => whnf
     repeat (first | (refine qz ?_; conv => whnf) | (refine qc (uT hs hn) ?_; conv => whnf) | (rw [hg]; conv => whnf) | (refine qc (aDm h0.1 h0.2) ?_; conv => whnf))
     exact xA rfl trivial
   · rw [decide_eq_false h0]
     refine qrf Try.func77 Try.ntmps77 Try.results77 ?_; conv => whnf
     repeat (first | (refine qz ?_; conv => whnf) | (refine qc (uT hs hn) ?_; conv => whnf) | (rw [hg]; conv => whnf) | (refine qc (aDl h0) ?_; conv => whnf))
     exact xA rfl trivial
theorem aEh {l : List Rf} (hm : l.length ≤ maxLen) (hk : ∀ e ∈ l, e.name.size ≤ maxLen) : AC Try.prog 66 [.lst 4 (l.map xq)] ⟨.v (.bool (vH l)), []⟩ := by
 have hm' := hm
 unfold maxLen at hm'
 by_cases hin : l.length ≤ 8
 case neg =>
  rw [jW (fun h => hin h.1)]
  refine qrf Try.func66 Try.ntmps66 Try.results66 ?_; conv => whnf
  repeat ((refine qz ?_; conv => whnf))
  exact xA rfl trivial
 refine qrf Try.func66 Try.ntmps66 Try.results66 ?_; conv => whnf
 repeat ((refine qz ?_; conv => whnf))
 refine xX (ι := { k : Nat // k ≤ l.length ∧ ∀ i, i < k → aAp l i }) (fun k => ⟨[(0, .lst 4 (l.map xq)), (8, .lst 4 (l.map xq)), (9, .v (.int .i64 (l.length : Int))), (10, .v (.int .i64 (k.1 : Int)))], []⟩) (fun k => l.length - k.1) ⟨0, Nat.zero_le _, fun i h => by omega⟩ (by exact qle) ?_
 rintro ⟨k, hk', hd⟩
 dsimp only at hk' hd ⊢
 conv => whnf
 by_cases hlt : k < l.length
 case neg =>
  rw [aE1 ⟨hin, fun i hi => hd i (by omega)⟩]
  repeat ((refine qz ?_; conv => whnf))
  exact xA rfl trivial
 have hsz := hk _ (List.getElem_mem hlt)
 have hac := aG4 hsz
 have hpl := aC5 (l := l.take k) (x := l[k].name) (by unfold maxLen; simp; omega)
 cases hb : vz l[k] with
 | false =>
  rw [hb] at hac
  rw [jW (fun h => by obtain ⟨_, q, _⟩ := h.2 k hlt; rw [hb] at q; cases q)]
  repeat ((first | refine qz ?_ | refine qc (hac) ?_ | refine qst ?_ | refine qdr ?_); conv => whnf)
  exact xA rfl trivial
 | true =>
  rw [hb] at hac
  by_cases hp : rAt (l.take k) l[k].name 0 < 0
  · repeat ((first | refine qz ?_ | refine qc (hac) ?_ | refine qst ?_ | refine qdr ?_ | refine qp (jR (h := k) (xs := l) (f := xq) (by omega) rfl rfl rfl) ?_ | refine qc (hpl) ?_); conv => whnf)
    exact ⟨⟨k + 1, hlt, fun i hi => by
     rcases Nat.lt_or_ge i k with h | h
     · exact hd i h
     · have : i = k := by omega
       subst this; exact ⟨hlt, hb, hp⟩⟩, by exact qle, by simp; omega⟩
  · rw [jW (fun h => by obtain ⟨_, _, q⟩ := h.2 k hlt; exact hp q)]
    repeat ((first | refine qz ?_ | refine qc (hac) ?_ | refine qst ?_ | refine qdr ?_ | refine qp (jR (h := k) (xs := l) (f := xq) (by omega) rfl rfl rfl) ?_ | refine qc (hpl) ?_); conv => whnf)
    exact xA rfl trivial
set_option maxHeartbeats 4000000 in
theorem aG2 {l : List Rf} (hm : l.length ≤ maxLen) (hk : ∀ e ∈ l, e.name.size ≤ maxLen) : AC Try.prog 63 [.lst 4 (l.map xq)] ⟨.v (.bool (vH l)), []⟩ := by
 have hm' := hm
 unfold maxLen at hm'
 by_cases hin : l.length ≤ 8
 case neg =>
  rw [jW (fun h => hin h.1)]
  refine qrf Try.func63 Try.ntmps63 Try.results63 ?_; conv => whnf
  repeat ((refine qz ?_; conv => whnf))
  exact xA rfl trivial
 refine qrf Try.func63 Try.ntmps63 Try.results63 ?_; conv => whnf
 repeat ((refine qz ?_; conv => whnf))
 refine aF8 (fun k : { k : Nat // k ≤ l.length ∧ ∀ i, i < k → aAp l i } => ⟨[(0, .lst 4 (l.map xq)), (3, .v (.int .i64 (k.1 : Int)))], [], []⟩) (fun k => l.length - k.1) ⟨0, Nat.zero_le _, fun i h => by omega⟩ ⟨by exact qle, trivial⟩ ?_
 rintro ⟨k, hk', hd⟩
 dsimp only at hk' hd ⊢
 by_cases hlt : k < l.length
 case neg =>
  rw [aE1 ⟨hin, fun i hi => hd i (by omega)⟩]
  refine xY _ _ _ ?_
  conv => whnf
  repeat (first | (refine qz ?_; conv => whnf))
  exact xA rfl trivial
 have hsz := hk _ (List.getElem_mem hlt)
 have hpl := aG1 (l := l) (x := l[k].name) hm
 have bad : (vz l[k] = true → ¬ rAt (l.take k) l[k].name 0 < 0) → vH l = false := fun q => jW (fun h => by obtain ⟨_, q1, q2⟩ := h.2 k hlt; exact q q1 q2)
 have nxt : vz l[k] = true → rAt (l.take k) l[k].name 0 < 0 → ∀ i, i < k + 1 → aAp l i := fun q1 q2 i hi => by
  rcases Nat.lt_or_ge i k with h | h
  · exact hd i h
  · have : i = k := by omega
    subst this; exact ⟨hlt, q1, q2⟩
 refine aHE ?_
 refine xY _ _ _ ?_
 conv => whnf
 repeat (first | (refine qz ?_; conv => whnf))
 refine aHE (aHW ?_)
 obtain ⟨g, hgg⟩ : ∃ g, g = l[k].gone := ⟨_, rfl⟩
 have hik : (l.map xq)[k]? = some (.agg [.v (.string l[k].name), .v (.int .i64 l[k].head), .v (.int .i64 l[k].ver), .v (.bool g)]) := by rw [List.getElem?_map, List.getElem?_eq_getElem hlt, hgg]; rfl
 refine aIn (ι := Unit) (fun _ => ⟨[(0, .lst 4 (l.map xq)), (3, .v (.int .i64 (k : Int))), (4, .optr 5 0 [] 0)], [(5, ⟨.s 86, 4, [.agg [.v (.string l[k].name), .v (.int .i64 l[k].head), .v (.int .i64 l[k].ver), .v (.bool g)]]⟩)], []⟩) ?_ (fun _ => ?_)
 · refine xY _ _ _ ?_
   conv => whnf
   repeat ((first | refine qp (ku hik rfl rfl rfl) ?_ | refine qst ?_ | refine qz ?_); conv => whnf)
   exact ⟨(), ⟨by exact qle, trivial⟩⟩
 refine xY _ _ _ ?_
 conv => whnf
 cases hw : okN l[k].name with
 | false =>
  rw [bad (fun q => by rw [aGH hw] at q; cases q)]
  as_aux_lemma =>
   repeat ((first | refine qc (zy hsz hw) ?_ | refine qz ?_); conv => whnf)
   exact xA rfl trivial
 | true =>
  by_cases hv : 1 ≤ l[k].ver ∧ l[k].ver ≤ 1000000
  case neg =>
   rw [bad (fun q => by rw [aGI hv] at q; cases q)]
   as_aux_lemma =>
    repeat ((first | refine qc (zy hsz hw) ?_ | refine qc (kC hv) ?_ | refine qz ?_); conv => whnf)
    exact xA rfl trivial
  by_cases hp : rAt l l[k].name 0 = (k : Int)
  case neg =>
   rw [bad (fun _ q => hp ((aD2 hlt).2 q))]
   as_aux_lemma =>
    repeat ((first | refine qc (zy hsz hw) ?_ | refine qc (zF hv.1 hv.2) ?_ | refine qc (hpl) ?_ | refine qz ?_); conv => whnf)
    exact xA rfl trivial
  have hp' := (aD2 hlt).1 hp
  cases g with
  | true =>
   have hb := aGF hw hv hgg.symm
   by_cases h0 : l[k].head = 0
   · rw [decide_eq_true h0] at hb
     as_aux_lemma =>
      repeat ((first | refine qc (zy hsz hw) ?_ | refine qc (zF hv.1 hv.2) ?_ | refine qc (hpl) ?_ | refine qz ?_); conv => whnf)
      refine xY _ _ _ ?_
      conv => whnf
      repeat ((first | refine qp (xQ (aEl (c := ((k + 1 : Nat) : Int)) (by omega) (by omega) (by omega)) rfl rfl rfl) ?_ | refine qz ?_); conv => whnf)
      exact ⟨⟨k + 1, hlt, nxt hb hp'⟩, ⟨by exact qle, trivial⟩, by simp; omega⟩
   · rw [decide_eq_false h0] at hb
     rw [bad (fun q => by rw [hb] at q; cases q)]
     as_aux_lemma =>
      repeat ((first | refine qc (zy hsz hw) ?_ | refine qc (zF hv.1 hv.2) ?_ | refine qc (hpl) ?_ | refine qz ?_); conv => whnf)
      exact xA rfl trivial
  | false =>
   have hb := aGG hw hv hgg.symm
   by_cases h0 : 1 ≤ l[k].head ∧ l[k].head ≤ 60
   · rw [decide_eq_true h0] at hb
     as_aux_lemma =>
      repeat ((first | refine qc (zy hsz hw) ?_ | refine qc (zF hv.1 hv.2) ?_ | refine qc (hpl) ?_ | refine qc (zF h0.1 h0.2) ?_ | refine qz ?_); conv => whnf)
      refine xY _ _ _ ?_
      conv => whnf
      repeat ((first | refine qp (xQ (aEl (c := ((k + 1 : Nat) : Int)) (by omega) (by omega) (by omega)) rfl rfl rfl) ?_ | refine qz ?_); conv => whnf)
      exact ⟨⟨k + 1, hlt, nxt hb hp'⟩, ⟨by exact qle, trivial⟩, by simp; omega⟩
   · rw [decide_eq_false h0] at hb
     rw [bad (fun q => by rw [hb] at q; cases q)]
     as_aux_lemma =>
      repeat ((first | refine qc (zy hsz hw) ?_ | refine qc (zF hv.1 hv.2) ?_ | refine qc (hpl) ?_ | refine qc (kC h0) ?_ | refine qz ?_); conv => whnf)
      exact xA rfl trivial
end Go.Proofs.Ytoaifonjemlfcaa.AM
namespace Go.Proofs.Ytoaifonjemlfcaa.AM
open Go Go.RowKit
def aJH (N : Nat) (l : List Rf) : Prop := ∀ e ∈ l, e.name.size ≤ N
attribute [local irreducible] xM xO yD yu zU Pre ACG
end Go.Proofs.Ytoaifonjemlfcaa.AM
namespace Go.Proofs.Ytoaifonjemlfcaa.AM
open Go Go.RowKit
theorem y7 {s : St} {Θ : Tab} {t1 t2 : Nat} {y1 y2 : Value} (h1 : s.sl t1 = .v y1) (h2 : s.sl t2 = .v y2) : aB6 Θ [.tmp t1, .tmp t2] ⟨.tup [.v y1, .v y2], []⟩ .ret s :=
 ⟨trivial, [], by simp, trivial, ⟨trivial, trivial, trivial⟩, ⟨_, rfl⟩, ⟨aI6 h1 trivial, aI6 h2 trivial, trivial⟩⟩
attribute [local irreducible] xM xO yD yu zU Pre ACG
end Go.Proofs.Ytoaifonjemlfcaa.AM
namespace Go.Proofs.Ytoaifonjemlfcaa.AM
open Go Go.RowKit
def vN (n : Nat) : List UInt8 := if h : n < 128 then [UInt8.ofNat n] else UInt8.ofNat (128 + n % 128) :: vN (n / 128)
termination_by n
decreasing_by omega
def xC (n : Nat) : ByteArray := ⟨(vN n).toArray⟩
theorem aBE {n : Nat} (h : n < 128) : vN n = [UInt8.ofNat n] := by rw [vN, dif_pos h]
theorem aDA {n : Nat} (h : ¬ n < 128) : vN n = UInt8.ofNat (128 + n % 128) :: vN (n / 128) := by rw [vN, dif_neg h]
theorem aDB : ∀ (k n : Nat), n < 128 ^ (k + 1) → (vN n).length ≤ k + 1
 | 0, n, h => by rw [aBE (by simpa using h)]; simp
 | k + 1, n, h => by
  by_cases hn : n < 128
  · rw [aBE hn]; simp
  · rw [aDA hn, List.length_cons]
    have := aDB k (n / 128) (by rw [Nat.div_lt_iff_lt_mul (by omega)]; rw [Nat.pow_succ] at h; exact h)
    omega
theorem qW {n : Nat} (h : n ≤ 268435455) : (vN n).length ≤ 4 := aDB 3 n (by omega)
theorem aFQ {n : Nat} (h : n < 256) : (UInt8.ofNat n).toNat = n := by simp; omega
attribute [local irreducible] xM xO yD yu zU Pre ACG
theorem yP {n : Nat} (hn : n ≤ 268435455) : AC Try.prog 22 [.v (.int .i64 (n : Int))] ⟨.v (.string (xC n)), []⟩ := by
 have h4 := qW hn
 refine qrf Try.func22 Try.ntmps22 Try.results22 ?_; conv => whnf
 refine xX (ι := { p : List UInt8 × Nat // p.1 ++ vN p.2 = vN n ∧ p.2 ≤ 268435455 }) (fun p => ⟨[(0, .v (.int .i64 (p.1.2 : Int))), (3, .own 5)], [(5, ⟨5, 1, p.1.1.map aBa⟩)]⟩) (fun p => p.1.2) ⟨([], n), by simp, hn⟩ (by exact qle) ?_
 rintro ⟨⟨acc, m⟩, hacc, hm⟩
 dsimp only at hacc hm ⊢
 have hal : acc.length ≤ 4 := by rw [← hacc, List.length_append] at h4; omega
 conv => whnf
 by_cases hlt : 127 < m
 · rw [aDA (by omega)] at hacc
   have hb := aFQ (n := 128 + m % 128) (by omega)
   repeat ((first | refine qz ?_ | refine qp (xQ (aCu (c := ((m % 128 : Nat) : Int)) (by omega) (by omega) (by omega)) rfl rfl rfl) ?_ | refine qp (aCd (b := UInt8.ofNat (128 + m % 128)) (by omega) rfl) ?_); conv => whnf)
   refine qr (aEX (f := aBa) (xs := acc) (UInt8.ofNat (128 + m % 128)) (acc ++ [UInt8.ofNat (128 + m % 128)]) rfl (by omega) rfl rfl rfl rfl rfl rfl rfl) ?_
   conv => whnf
   repeat ((first | refine qz ?_ | refine qp (xQ (aIA (c := ((m / 128 : Nat) : Int)) (by omega) (by omega) (by omega) (by omega)) rfl rfl rfl) ?_); conv => whnf)
   exact ⟨⟨(acc ++ [UInt8.ofNat (128 + m % 128)], m / 128), by simpa using hacc, by dsimp only; omega⟩, by exact qle, by dsimp only; omega⟩
 · rw [aBE (by omega)] at hacc
   have hb := aFQ (n := m) (by omega)
   repeat ((first | refine qz ?_ | refine qp (aCd (b := UInt8.ofNat m) (by omega) rfl) ?_); conv => whnf)
   refine qr (aEX (f := aBa) (xs := acc) (UInt8.ofNat m) (acc ++ [UInt8.ofNat m]) rfl (by omega) rfl rfl rfl rfl rfl rfl rfl) ?_
   conv => whnf
   refine qp (aIt (aFb (acc ++ [UInt8.ofNat m])) rfl rfl rfl rfl) ?_
   conv => whnf
   repeat ((refine qz ?_; conv => whnf))
   unfold xC
   rw [← hacc]
   exact xA rfl trivial
end Go.Proofs.Ytoaifonjemlfcaa.AM
namespace Go.Proofs.Ytoaifonjemlfcaa.AM
open Go Go.RowKit
def qC (n : Int) : ByteArray × Int := if 0 ≤ n ∧ n ≤ 4000000 then (xC n.toNat, 0) else (⟨#[]⟩, 4)
def uO (t : ByteArray) : ByteArray := xC t.size ++ t
def wI (n : Int) : ByteArray := xC (if n < 0 then -2 * n - 1 else 2 * n).toNat
def kW (l : List UInt8) : Int := l.foldl (fun n b => (n * 31 + (b.toNat : Int) + 1) % 1000003) 1
def wZ (t : ByteArray) : Int := kW t.data.toList
def qH (t : ByteArray) : Int × Int := if 65536 < t.size then (0, 2) else (wZ t, 0)
theorem aAT (l : List UInt8) : 0 ≤ kW l ∧ kW l ≤ 1000003 := by
 unfold kW
 have : ∀ (l : List UInt8) (n : Int), 0 ≤ n → n ≤ 1000003 → 0 ≤ l.foldl (fun n b => (n * 31 + (b.toNat : Int) + 1) % 1000003) n ∧ l.foldl (fun n b => (n * 31 + (b.toNat : Int) + 1) % 1000003) n ≤ 1000003 := by
  intro l
  induction l with
  | nil => intro n h1 h2; exact ⟨h1, h2⟩
  | cons b l ih => intro n h1 h2; exact ih ((n * 31 + (b.toNat : Int) + 1) % 1000003) (by omega) (by omega)
 exact this l 1 (by omega) (by omega)
theorem aC2 {t : ByteArray} {i : Nat} (h : i < t.size) : kW (t.data.toList.take (i + 1)) = (kW (t.data.toList.take i) * 31 + ((t[i]).toNat : Int) + 1) % 1000003 := by
 have hl : i < t.data.toList.length := by rw [Array.length_toList]; exact h
 unfold kW
 rw [List.take_succ_eq_append_getElem hl, List.foldl_append]
 rfl
attribute [local irreducible] xM xO yD yu zU Pre ACG
theorem aHO {n : Int} : AC Try.prog 7 [.v (.int .i64 n)] ⟨.tup [.v (.string (qC n).1), .v (.int .i64 (qC n).2)], []⟩ := by
 unfold qC
 by_cases h : 0 ≤ n ∧ n ≤ 4000000
 · obtain ⟨m, rfl⟩ : ∃ m : Nat, n = m := ⟨n.toNat, by omega⟩
   rw [if_pos h]
   have c1 := yP (n := m) (by omega)
   refine qrf Try.func7 Try.ntmps7 Try.results7 ?_; conv => whnf
   repeat ((first | refine qz ?_ | refine qc (zF h.1 h.2) ?_ | refine qc (c1) ?_); conv => whnf)
   exact y7 rfl rfl
 · rw [if_neg h]
   refine qrf Try.func7 Try.ntmps7 Try.results7 ?_; conv => whnf
   repeat ((first | refine qz ?_ | refine qc (kC h) ?_); conv => whnf)
   exact y7 rfl rfl
theorem aAv {t : ByteArray} (ht : t.size ≤ 268435455) : AC Try.prog 53 [.v (.string t)] ⟨.v (.string (uO t)), []⟩ := by
 have c1 := yP ht
 have h4 := qW ht
 have hs : (xC t.size).size ≤ 4 := h4
 refine qrf Try.func53 Try.ntmps53 Try.results53 ?_; conv => whnf
 repeat ((first | refine qz ?_ | refine qc (c1) ?_ | refine qp (xQ (wm (by omega)) rfl rfl rfl) ?_); conv => whnf)
 exact xA rfl trivial
theorem aCn {n : Int} (h0 : -1000000 ≤ n) (h1 : n ≤ 1000000) : AC Try.prog 54 [.v (.int .i64 n)] ⟨.v (.string (wI n)), []⟩ := by
 unfold wI
 by_cases h : n < 0
 · rw [if_pos h]
   have c1 := yP (n := (-2 * n - 1).toNat) (by omega)
   refine qrf Try.func54 Try.ntmps54 Try.results54 ?_; conv => whnf
   repeat ((first | refine qp (xQ (jO (c := -2 * n) rfl (by omega) (by omega)) rfl rfl rfl) ?_ | refine qp (xQ (aEm (c := (((-2 * n - 1).toNat : Nat) : Int)) (by omega) (by omega) (by omega)) rfl rfl rfl) ?_ | refine qz ?_ | refine qc (c1) ?_); conv => whnf)
   exact xA rfl trivial
 · rw [if_neg h]
   have c1 := yP (n := (2 * n).toNat) (by omega)
   refine qrf Try.func54 Try.ntmps54 Try.results54 ?_; conv => whnf
   repeat ((first | refine qp (xQ (jO (c := (((2 * n).toNat : Nat) : Int)) (by omega) (by omega) (by omega)) rfl rfl rfl) ?_ | refine qz ?_ | refine qc (c1) ?_); conv => whnf)
   exact xA rfl trivial
theorem aBu {t : ByteArray} (ht : t.size ≤ maxLen) : AC Try.prog 49 [.v (.string t)] ⟨.v (.int .i64 (wZ t)), []⟩ := by
 unfold maxLen at ht
 refine qrf Try.func49 Try.ntmps49 Try.results49 ?_; conv => whnf
 refine xX (ι := { i : Nat // i ≤ t.size }) (fun i => ⟨[(0, .v (.string t)), (3, .v (.int .i64 (kW (t.data.toList.take i.1)))), (4, .v (.int .i64 (i.1 : Int)))], []⟩) (fun i => t.size - i.1) ⟨0, Nat.zero_le _⟩ (by exact qle) ?_
 rintro ⟨i, hi⟩
 dsimp only
 conv => whnf
 by_cases hlt : i < t.size
 · have hs := aC2 hlt
   have hb := aAT (t.data.toList.take i)
   have h8 := (t[i]).toNat_lt
   generalize kW (t.data.toList.take i) = m at hs hb ⊢
   repeat ((first | refine qp (xQ (jO (c := m * 31) rfl (by omega) (by omega)) rfl rfl rfl) ?_ | refine qz ?_ | refine qp (aEZ (zm 9) rfl rfl hlt) ?_ | refine qp (aHK rfl h8) ?_ | refine qp (xQ (aCu (by omega) (by omega) hs.symm) rfl rfl rfl) ?_); conv => whnf)
   exact ⟨⟨i + 1, hlt⟩, by exact qle, by simp; omega⟩
 · have e : i = t.size := by omega
   subst e
   have hall : t.data.toList.take t.size = t.data.toList := List.take_of_length_le (by rw [Array.length_toList]; exact Nat.le_refl _)
   repeat ((refine qz ?_; conv => whnf))
   rw [hall]
   exact xA rfl trivial
theorem aFX {t : ByteArray} (ht : t.size ≤ maxLen) : AC Try.prog 19 [.v (.string t)] ⟨.tup [.v (.int .i64 (qH t).1), .v (.int .i64 (qH t).2)], []⟩ := by
 have c1 := aBu ht
 unfold maxLen at ht
 unfold qH
 by_cases h : 65536 < t.size
 · rw [if_pos h]
   refine qrf Try.func19 Try.ntmps19 Try.results19 ?_; conv => whnf
   repeat ((refine qz ?_; conv => whnf))
   exact y7 rfl rfl
 · rw [if_neg h]
   refine qrf Try.func19 Try.ntmps19 Try.results19 ?_; conv => whnf
   repeat ((first | refine qz ?_ | refine qc (c1) ?_); conv => whnf)
   exact y7 rfl rfl
end Go.Proofs.Ytoaifonjemlfcaa.AM
namespace Go.Proofs.Ytoaifonjemlfcaa
open Go.RowKit Go.ChangeShapes Go.WideShapes Go.Deep
theorem aFC : ownKnob Try.prog.godebug = none := by kernel_rfl
theorem jm : laidOutB Try.prog = true := by kernel_rfl
theorem qP (a : Addr) : a.add 0 = a := by unfold Addr.add; simp
theorem qx {w : World} {a : Addr} {v : Value} (h : w.cell? a = some v) : a.spot = none := by
 unfold World.cell? at h
 cases hs : a.spot with
 | none => rfl
 | some x => simp [hs] at h; split at h <;> simp at h
section
variable {H : Type} {enc : TypeId × Value → H} {P : Program} {w : World} {base : Nat} {spare : Nat → Bool} {held : Bool}
theorem aAU {t e : TypeId} {fs : Array Field} {fuel : Nat} {cs : List Value} {x : DataW H × List MemPlace} (ht : P.underlying t = some (.slice e)) (he : P.underlying e = some (.struct fs))
 (hone : oneCellFields P fs = true) (hC : P.cellsOf e = fs.size) (h : DataW.trod enc P w base spare held fuel t cs = some x) :
 (cs = [.slice none 0 0] ∧ x = (.nil, [])) ∨
 ∃ (a : Addr) (len cap m : Nat) (D : Nat → DataW H) (Pl : Nat → List MemPlace), cs = [.slice (some a) len cap] ∧ base ≤ a.block ∧ len ≤ cap ∧ cap ≤ maxLen ∧ m = (if spare a.block then cap else len) ∧
  x = (.slice ((List.range len).map D) ((List.range (m - len)).map fun j => D (len + j)), MemPlace.row a (m * fs.size) ++ (List.range m).flatMap Pl) ∧
  ∀ i, i < m → ∃ (ys : List (DataW H × List MemPlace)) (n : Nat), D i = .agg (ys.map (·.1)) ∧ Pl i = ys.flatMap (·.2) ∧ ys.length = fs.size ∧
   ∀ (j : Nat) (f : Field), fs[j]? = some f → ∃ (v : Value) (y : DataW H × List MemPlace), w.cell? (a.add (i * fs.size + j)) = some v ∧ ys[j]? = some y ∧ DataW.trod enc P w base spare held n f.type [v] = some y := by
 rcases open_slice ht h with h0 | ⟨a, len, cap, m, n, D, Pl, hcs, hb, hl, hm, hmm, hx, hi⟩
 · exact .inl h0
 · refine .inr ⟨a, len, cap, m, D, Pl, hcs, hb, hl, hm, hmm, by rw [hC] at hx; exact hx, fun i him => ?_⟩
   obtain ⟨cs', hc, ht'⟩ := hi i him
   rw [hC] at hc
   obtain ⟨ys, n', hn', hy, hlen, hyl, hf⟩ := DataW.trod_struct he ht'
   obtain ⟨_, hcl, hat⟩ := World.cells?_some hc
   simp only [Prod.mk.injEq] at hy
   refine ⟨ys, n', hy.1, hy.2, hyl, fun j f hj => ?_⟩
   obtain ⟨ho, hk⟩ := hone_of hone j f hj
   have hjl : j < fs.size := (Array.getElem?_eq_some_iff.1 hj).1
   have hcell := hat j hjl
   have hv : cs'[j]? = some (cs'[j]'(by omega)) := List.getElem?_eq_getElem (by omega)
   have h1 := hf j f hj
   rw [ho, hk] at h1
   have hone' : (cs'.drop j).take 1 = [cs'[j]'(by omega)] := by
    rw [List.drop_eq_getElem_cons (by omega)]
    rfl
   rw [hone'] at h1
   have hys : ys[j]? = some (ys[j]'(by omega)) := List.getElem?_eq_getElem (by omega)
   refine ⟨_, _, ?_, hys, h1.trans hys⟩
   rw [← Go.Deep.add_add, hcell, hv]
theorem jK {t e : TypeId} {fs : Array Field} {A : Option Addr} {n c : Nat} {d : DataW H} {p : List MemPlace} (ht : P.underlying t = some (.slice e)) (he : P.underlying e = some (.struct fs))
 (hone : oneCellFields P fs = true) (hC : P.cellsOf e = fs.size) (h0 : 0 < fs.size) (h : DataW.Trod enc P w base (fun _ => true) held t (.slice A n c) d p) :
 n ≤ maxLen ∧ (0 < n → ∃ b off, A = some ⟨b, off, none⟩ ∧ b < w.heap.size ∧ ∀ i, i < n → ∃ k, ∀ (j : Nat) (f : Field), fs[j]? = some f → ∃ (v : Value) (y : DataW H × List MemPlace), w.cell? ⟨b, off + (i * fs.size + j), none⟩ = some v ∧ DataW.trod enc P w base (fun _ => true) held k f.type [v] = some y) := by
 obtain ⟨fuel, hf⟩ := h
 rcases aAU ht he hone hC hf with ⟨hcs, _⟩ | ⟨a, len, cap, m, D, Pl, hcs, _, hl, hm, hmm, _, hi⟩
 · simp [Value.cells] at hcs
   obtain ⟨rfl, rfl, rfl⟩ := hcs
   exact ⟨Nat.zero_le _, fun h => absurd h (by omega)⟩
 · simp [Value.cells] at hcs
   obtain ⟨rfl, rfl, rfl⟩ := hcs
   simp at hmm
   subst hmm
   refine ⟨Nat.le_trans hl hm, fun hn => ?_⟩
   have hz := hi 0 (by omega)
   obtain ⟨_, _, _, _, _, hz⟩ := hz
   obtain ⟨v, y, hcell, _⟩ := hz 0 (fs[0]) (by simp [h0])
   rw [Nat.zero_mul, Nat.zero_add, qP] at hcell
   have hsp := qx hcell
   obtain ⟨b, off, sp⟩ := a
   simp at hsp
   subst hsp
   have hadd : ∀ j, (⟨b, off, none⟩ : Addr).add j = ⟨b, off + j, none⟩ := fun j => by unfold Addr.add; split <;> simp_all
   refine ⟨b, off, rfl, ?_, fun i hin => ?_⟩
   · exact World.block_lt_of_cell? w _ hcell
   · obtain ⟨ys, k, _, _, _, hj⟩ := hi i (by omega)
     refine ⟨k, fun j f hf => ?_⟩
     obtain ⟨v, y, hcell, _, hty⟩ := hj j f hf
     rw [hadd] at hcell
     exact ⟨v, y, hcell, hty⟩
end
theorem aAK {α : Type} (n : Nat) (Q : Nat → α → Prop) (h : ∀ i, i < n → ∃ a, Q i a) : ∃ l : List α, l.length = n ∧ ∀ i (hi : i < l.length), Q i l[i] := by
 induction n with
 | zero => exact ⟨[], rfl, fun i hi => absurd hi (by simp)⟩
 | succ n ih =>
  obtain ⟨l, hl, hq⟩ := ih fun i hi => h i (by omega)
  obtain ⟨a, ha⟩ := h n (by omega)
  refine ⟨l ++ [a], by simp [hl], fun i hi => ?_⟩
  rw [List.length_append, List.length_singleton] at hi
  rcases Nat.lt_or_ge i l.length with hlt | hge
  · rw [List.getElem_append_left hlt]; exact hq i hlt
  · have : i = l.length := by omega
    subst this
    rw [List.getElem_append_right (Nat.le_refl _)]
    simp only [Nat.sub_self, List.getElem_cons_zero]
    rw [hl]; exact ha
section
variable {H : Type} {enc : TypeId × Value → H} {P : Program} {w : World} {base : Nat} {held : Bool}
theorem aCQ {t e : TypeId} {f0 f1 : Field} {A : Option Addr} {n c : Nat} {d : DataW H} {p : List MemPlace} (ht : P.underlying t = some (.slice e)) (he : P.underlying e = some (.struct #[f0, f1]))
 (hone : oneCellFields P #[f0, f1] = true) (hC : P.cellsOf e = 2) (h0 : P.underlying f0.type = some .string) (h1 : P.underlying f1.type = some (.int .i64)) (h : DataW.Trod enc P w base (fun _ => true) held t (.slice A n c) d p) :
 ∃ es : List Ent, Rd w 2 A n (xg es) ∧ n ≤ maxLen ∧ ∀ e ∈ es, e.1.size ≤ maxLen := by
 obtain ⟨hn, hf⟩ := jK ht he hone hC (by simp) h
 rcases Nat.eq_zero_or_pos n with h | hpos
 · subst h
   exact ⟨[], ⟨by simp [xg], fun h => absurd h (by omega)⟩, hn, by simp⟩
 obtain ⟨b, off, rfl, hlt, hi⟩ := hf hpos
 obtain ⟨es, hl, hes⟩ := aAK (α := Ent) n (fun i x => w.cell? ⟨b, off + (i * 2 + 0), none⟩ = some (.string x.1) ∧ w.cell? ⟨b, off + (i * 2 + 1), none⟩ = some (.int .i64 x.2) ∧ x.1.size ≤ maxLen) (fun i hin => by
  obtain ⟨k, hk⟩ := hi i hin
  obtain ⟨v0, y0, c0, t0⟩ := hk 0 f0 rfl
  obtain ⟨v1, y1, c1, t1⟩ := hk 1 f1 rfl
  obtain ⟨s, hs, _, hsz⟩ := DataW.trod_string h0 t0
  obtain ⟨x, hx, _, _⟩ := DataW.trod_int h1 t1
  simp at hs hx
  subst hs; subst hx
  exact ⟨(s, x), c0, c1, hsz⟩)
 refine ⟨es, ⟨by rw [uX, hl], fun _ => ⟨b, off, rfl, hlt, fun j u hj => ?_⟩⟩, hn, fun e he => ?_⟩
 · have hjl : j < es.length * 2 := by
    rcases Nat.lt_or_ge j (es.length * 2) with h | h
    · exact h
    · rw [List.getElem?_eq_none (by rw [uX]; exact h)] at hj; cases hj
   have hq : j / 2 < es.length := by omega
   obtain ⟨a0, a1, _⟩ := hes (j / 2) hq
   have hm : j = j / 2 * 2 + j % 2 := by omega
   rcases Nat.mod_two_eq_zero_or_one j with h2 | h2
   · rw [h2] at hm
     rw [Nat.add_zero] at hm
     rw [hm, aBy es _ hq] at hj
     simp at hj
     rw [Nat.add_zero] at a0
     rw [hm, ← hj]; exact a0
   · rw [h2] at hm
     rw [hm, aBz es _ hq] at hj
     simp at hj
     rw [hm, ← hj]; exact a1
 · obtain ⟨i, hi', rfl⟩ := List.getElem_of_mem he
   exact (hes i hi').2.2
end
end Go.Proofs.Ytoaifonjemlfcaa
