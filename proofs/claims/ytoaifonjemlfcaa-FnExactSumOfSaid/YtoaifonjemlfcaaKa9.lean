/- Texts of the machine over data, folded. -/
import Derived.Test.YtoaifonjemlfcaaKa5
import Derived.Test.YtoaifonjemlfcaaKa8
import Derived.Test.YtoaifonjemlfcaaKa7
import Derived.Test.YtoaifonjemlfcaaKa6
import Derived.WalkSpells
set_option linter.unusedVariables false
set_option linter.unusedSimpArgs false
set_option maxRecDepth 100000
namespace Go.Proofs.Ytoaifonjemlfcaa.AM
open Go Go.RowKit
def brB : ByteArray := ⟨#[66, 82, 49]⟩
def wX (r : Rf) : ByteArray := uO r.name ++ xC r.ver.toNat ++ xC r.head.toNat
def uH (a : ByteArray) (l : List Cmt) : ByteArray := l.foldl (fun t c => t ++ uy c) a
def vB (a : ByteArray) (l : List Rf) : ByteArray := l.foldl (fun t r => t ++ wX r) a
def vL (b : Bas) : ByteArray := vB (uH (brB ++ xC b.store.length) b.store ++ xC b.refs.length) b.refs
def qQ (b : Bas) : ByteArray := vL b ++ xC (wZ (vL b)).toNat
structure RfS (r : Rf) : Prop where
 n : r.name.size ≤ 12
 v0 : 0 ≤ r.ver
 v1 : r.ver ≤ 1000000
 h0 : 0 ≤ r.head
 h1 : r.head ≤ 60
structure BasS (b : Bas) : Prop where
 sl : b.store.length ≤ 60
 sc : ∀ c ∈ b.store, CmtS c ∧ c.1.length ≤ 2 ∧ c.2.length ≤ 12
 rl : b.refs.length ≤ 8
 rr : ∀ r ∈ b.refs, RfS r
theorem aF5 {b : Bas} (h : jd b = true) : BasS b := by
 unfold jd qy at h
 simp only [Bool.and_eq_true, decide_eq_true_eq] at h
 obtain ⟨⟨hl, hc⟩, hr, _⟩ := h
 have hrs := aGt hr
 refine ⟨hl.2, fun c hcm => ?_, hrs.1, fun r hrm => ?_⟩
 · obtain ⟨i, hi, rfl⟩ := List.getElem_of_mem hcm
   have h1 := aCx hc i hi
   unfold vX at h1
   rw [Bool.and_eq_true] at h1
   have h2 := aCO h1.1
   have h3 : aCe (0 + i) (b.store[i]).1 := by
    have := h1.2
    unfold vP at this
    simpa using this
   refine ⟨⟨by have := h3.1; omega, fun p hp => ?_, by omega, aBQ h1.1⟩, h3.1, h2⟩
   obtain ⟨j, hj, rfl⟩ := List.getElem_of_mem hp
   obtain ⟨_, g1, g2, _⟩ := h3.2.2 j hj
   omega
 · obtain ⟨i, hi, rfl⟩ := List.getElem_of_mem hrm
   obtain ⟨_, g, _⟩ := hrs.2 i hi
   unfold vz at g
   simp only [Bool.and_eq_true, decide_eq_true_eq] at g
   refine ⟨aFu g.1, by omega, by omega, ?_, ?_⟩
   · have := g.2.2; split at this <;> (simp only [decide_eq_true_eq] at this; omega)
   · have := g.2.2; split at this <;> (simp only [decide_eq_true_eq] at this; omega)
theorem aHb {r : Rf} (h : RfS r) : (wX r).size ≤ 24 := by
 unfold wX
 have h1 := kG (t := r.name) (by have := h.n; omega)
 have h2 := yF (n := r.ver.toNat) (by have := h.v1; omega)
 have h3 := yF (n := r.head.toNat) (by have := h.h1; omega)
 rw [ByteArray.size_append, ByteArray.size_append]
 have := h.n
 omega
theorem j4 : ∀ (l : List Cmt) (a : ByteArray), (∀ c ∈ l, CmtS c ∧ c.1.length ≤ 2 ∧ c.2.length ≤ 12) → (uH a l).size ≤ a.size + 300 * l.length
 | [], a, h => by simp [uH]
 | c :: l, a, h => by
  obtain ⟨k1, k2, k3⟩ := h c (by simp)
  have h1 := j4 l (a ++ uy c) (fun q hq => h q (by simp [hq]))
  have h2 := aEJ k1
  rw [ByteArray.size_append] at h1
  show (uH (a ++ uy c) l).size ≤ _
  simp only [List.length_cons]; omega
theorem jV : ∀ (l : List Rf) (a : ByteArray), (∀ r ∈ l, RfS r) → (vB a l).size ≤ a.size + 24 * l.length
 | [], a, h => by simp [vB]
 | c :: l, a, h => by
  have h1 := jV l (a ++ wX c) (fun q hq => h q (by simp [hq]))
  have h2 := aHb (h c (by simp))
  rw [ByteArray.size_append] at h1
  show (vB (a ++ wX c) l).size ≤ _
  simp only [List.length_cons]; omega
attribute [local irreducible] xM xO yD yu zU Pre ACG
set_option maxHeartbeats 1000000 in
theorem aEi {b : Bas} (h : BasS b) : AC Try.prog 38 [uE b] ⟨.v (.string (qQ b)), []⟩ := by
 have hsl := h.sl
 have hrl := h.rl
 have c1 := yP (n := b.store.length) (by omega)
 have c2 := yP (n := b.refs.length) (by omega)
 have z1 := yF (n := b.store.length) (by omega)
 have z2 := yF (n := b.refs.length) (by omega)
 have zb : brB.size = 3 := rfl
 have z3 : (brB ++ xC b.store.length).size ≤ 7 := by rw [ByteArray.size_append]; omega
 have hb0 := @wm Try.prog 9 (.const (.string ⟨#[66, 82, 49]⟩)) (.tmp 9) brB (xC b.store.length) (by omega)
 refine qrf Try.func38 Try.ntmps38 Try.results38 ?_; conv => whnf
 repeat ((first | refine qz ?_ | refine qc (c1) ?_ | refine qp (xQ hb0 rfl rfl rfl) ?_); conv => whnf)
 refine xX (ι := { i : Nat // i ≤ b.store.length }) (fun i => ⟨[(1, .optr 2 0 [] 0), (3, .v (.string (uH (brB ++ xC b.store.length) (b.store.take i.1)))), (4, .v (.int .i64 (i.1 : Int)))], [(2, ⟨46, 2, [uE b]⟩)]⟩) (fun i => b.store.length - i.1) ⟨0, Nat.zero_le _⟩ (by exact qle) ?_
 rintro ⟨i, hi⟩
 dsimp only
 conv => whnf
 by_cases hlt : i < b.store.length
 · obtain ⟨k1, k2, k3⟩ := h.sc _ (List.getElem_mem hlt)
   have hs : uH (brB ++ xC b.store.length) (b.store.take (i + 1)) = uH (brB ++ xC b.store.length) (b.store.take i) ++ uy b.store[i] := zx hlt
   have hz := j4 (b.store.take i) (brB ++ xC b.store.length) (fun c hc => h.sc c (List.mem_of_mem_take hc))
   rw [List.length_take] at hz
   have c3 := qM k1
   have z4 := aEJ k1
   generalize uH (brB ++ xC b.store.length) (b.store.take i) = A at hs hz ⊢
   repeat ((first | refine qz ?_ | refine qc (c3) ?_ | refine qp (xQ (wm (by omega)) rfl rfl rfl) ?_); conv => whnf)
   rw [← hs]
   exact ⟨⟨i + 1, hlt⟩, by exact qle, by simp; omega⟩
 have e : i = b.store.length := by omega
 subst e
 rw [List.take_length]
 have hz := j4 b.store (brB ++ xC b.store.length) h.sc
 unfold qQ vL
 generalize uH (brB ++ xC b.store.length) b.store = A at hz ⊢
 have z5 : (A ++ xC b.refs.length).size ≤ 100000 := by rw [ByteArray.size_append]; omega
 repeat ((first | refine qz ?_ | refine qc (c2) ?_ | refine qp (xQ (wm (by omega)) rfl rfl rfl) ?_); conv => whnf)
 refine xX (ι := { i : Nat // i ≤ b.refs.length }) (fun i => ⟨[(1, .optr 2 0 [] 0), (3, .v (.string (vB (A ++ xC b.refs.length) (b.refs.take i.1)))), (5, .v (.int .i64 (i.1 : Int)))], [(2, ⟨46, 2, [uE b]⟩)]⟩) (fun i => b.refs.length - i.1) ⟨0, Nat.zero_le _⟩ (by exact qle) ?_
 rintro ⟨i, hi⟩
 dsimp only
 conv => whnf
 by_cases hlt : i < b.refs.length
 · have k := h.rr _ (List.getElem_mem hlt)
   obtain ⟨k1, k2, k3, k4, k5⟩ := k
   have hs : vB (A ++ xC b.refs.length) (b.refs.take (i + 1)) = vB (A ++ xC b.refs.length) (b.refs.take i) ++ wX b.refs[i] := zx hlt
   have hz' := jV (b.refs.take i) (A ++ xC b.refs.length) (fun r hr => h.rr r (List.mem_of_mem_take hr))
   rw [List.length_take] at hz'
   unfold wX at hs
   have z6 := kG (t := (b.refs[i]).name) (by omega)
   have c3 := aAv (t := (b.refs[i]).name) (by omega)
   obtain ⟨v, hv⟩ : ∃ v : Nat, (b.refs[i]).ver = (v : Int) := ⟨(b.refs[i]).ver.toNat, by omega⟩
   obtain ⟨u, hu⟩ : ∃ u : Nat, (b.refs[i]).head = (u : Int) := ⟨(b.refs[i]).head.toNat, by omega⟩
   rw [hv, hu, Int.toNat_natCast, Int.toNat_natCast] at hs
   have c4 := yP (n := v) (by omega)
   have c5 := yP (n := u) (by omega)
   have z7 := yF (n := v) (by omega)
   have z8 := yF (n := u) (by omega)
   have z9 : (uO (b.refs[i]).name ++ xC v).size ≤ 100 := by rw [ByteArray.size_append]; omega
   have za : (uO (b.refs[i]).name ++ xC v ++ xC u).size ≤ 200 := by rw [ByteArray.size_append]; omega
   rw [← hv] at c4
   rw [← hu] at c5
   generalize vB (A ++ xC b.refs.length) (b.refs.take i) = E at hs hz' ⊢
   repeat ((first | refine qz ?_ | refine qdr ?_ | refine qc (c3) ?_ | refine qc (c4) ?_ | refine qc (c5) ?_ | refine qp (xQ (wm (by omega)) rfl rfl rfl) ?_); conv => whnf)
   rw [← hs]
   exact ⟨⟨i + 1, hlt⟩, by exact qle, by simp; omega⟩
 have e : i = b.refs.length := by omega
 subst e
 rw [List.take_length]
 have hz' := jV b.refs (A ++ xC b.refs.length) h.rr
 generalize vB (A ++ xC b.refs.length) b.refs = E at hz' ⊢
 have hsb := aAT E.data.toList
 obtain ⟨v, hv⟩ : ∃ v : Nat, wZ E = (v : Int) := ⟨(wZ E).toNat, by unfold wZ; omega⟩
 have c3 := aBu (t := E) (by unfold maxLen; omega)
 unfold wZ at hv c3 ⊢
 rw [hv] at c3 ⊢
 rw [Int.toNat_natCast]
 have c4 := yP (n := v) (by omega)
 have z7 := yF (n := v) (by omega)
 repeat ((first | refine qz ?_ | refine qdr ?_ | refine qc (c3) ?_ | refine qc (c4) ?_ | refine qp (xQ (wm (by omega)) rfl rfl rfl) ?_); conv => whnf)
 exact xA rfl trivial
noncomputable def encR (b : Bas) : ByteArray × Int := if jd b = true then (qQ b, 0) else (⟨#[]⟩, 1)
theorem aG5 {b : Bas} (hb : b.ok maxLen) : AC Try.prog 15 [uE b] ⟨.tup [.v (.string (encR b).1), .v (.int .i64 (encR b).2)], []⟩ := by
 have c1 := aG3 hb
 unfold encR
 cases h : jd b
 · rw [h] at c1
   rw [if_neg (by simp)]
   refine qrf Try.func15 Try.ntmps15 Try.results15 ?_; conv => whnf
   repeat ((first | refine qz ?_ | refine qc (c1) ?_); conv => whnf)
   exact y7 rfl rfl
 · rw [h] at c1
   rw [if_pos rfl]
   have c2 := aEi (aF5 h)
   refine qrf Try.func15 Try.ntmps15 Try.results15 ?_; conv => whnf
   repeat ((first | refine qz ?_ | refine qc (c1) ?_ | refine qc (c2) ?_); conv => whnf)
   exact y7 rfl rfl
end Go.Proofs.Ytoaifonjemlfcaa.AM
namespace Go.Proofs.Ytoaifonjemlfcaa.AM
open Go Go.RowKit
theorem qY {α : Type} {f : α → ByteArray} (t : ByteArray) : ∀ (l : List α) (a : ByteArray), l.foldl (fun t x => t ++ f x) (t ++ a) = t ++ l.foldl (fun t x => t ++ f x) a
 | [], a => rfl
 | x :: l, a => by
  simp only [List.foldl_cons]
  rw [ByteArray.append_assoc]
  exact qY t l (a ++ f x)
theorem aGf (t : ByteArray) (c : Cmt) : uz (zo (t ++ xC c.1.length) c.1 ++ xC c.2.length) c.2 = t ++ uy c := by
 unfold uy uz zo
 rw [qY t, ByteArray.append_assoc]
 exact qY t _ _
attribute [local irreducible] xM xO yD yu zU Pre ACG
set_option maxHeartbeats 1000000 in
theorem aGa {t : ByteArray} {l : List Int} (hl : l.length ≤ 60) (hp : ∀ p ∈ l, 0 ≤ p ∧ p ≤ 1000) (ht : t.size ≤ 60000000) :
 ACG Try.prog 57 [.optr 0 0 [] 0, .lst 1 (l.map yV), .fn 23 [.optr 0 0 [] 0] []] [yL t] [yL (zo (t ++ xC l.length) l)] ⟨.tup [], []⟩ := by
 have z1 := yF (n := l.length) (by omega)
 have c1 := zV (t := t) (n := l.length) (by omega) (by omega)
 refine zY (rs := []) zm (by kernel_rfl) Try.func57 rfl Try.ntmps57 (by rw [Try.results57]) (by kernel_rfl) (by simp) rfl rfl (xY _ _ _ ?_)
 conv => whnf
 repeat ((first | refine qz ?_ | refine qr (xP [0] (c1) rfl rfl (by first | exact ⟨rfl, trivial⟩ | exact ⟨rfl, rfl, trivial⟩ | exact ⟨rfl, rfl, rfl, trivial⟩) rfl rfl (by first | exact trivial | exact ⟨⟨rfl, rfl, rfl⟩, trivial⟩ | exact ⟨⟨rfl, rfl, rfl⟩, ⟨rfl, rfl, rfl⟩, trivial⟩ | exact ⟨⟨rfl, rfl, rfl⟩, ⟨rfl, rfl, rfl⟩, ⟨rfl, rfl, rfl⟩, trivial⟩) rfl rfl rfl (.inl rfl) rfl) ?_); conv => whnf)
 refine xX (ι := { i : Nat // i ≤ l.length }) (fun i => ⟨[(0, .optr 0 0 [] 0), (2, .fn 23 [.optr 0 0 [] 0] []), (12, .lst 1 (l.map yV)), (13, .v (.int .i64 (l.length : Int))), (14, .v (.int .i64 (i.1 : Int)))], [(0, yL (zo (t ++ xC l.length) (l.take i.1)))]⟩) (fun i => l.length - i.1) ⟨0, Nat.zero_le _⟩ (by exact qle) ?_
 rintro ⟨i, hi⟩
 dsimp only
 conv => whnf
 by_cases hlt : i < l.length
 · have hpi := hp _ (List.getElem_mem hlt)
   have hs : zo (t ++ xC l.length) (l.take (i + 1)) = zo (t ++ xC l.length) (l.take i) ++ xC (l[i]).toNat := zx hlt
   have hz := kE (l.take i) (t ++ xC l.length) (fun p hp' => by have := hp p (List.mem_of_mem_take hp'); omega)
   rw [List.length_take, ByteArray.size_append] at hz
   obtain ⟨m, hm⟩ : ∃ m : Nat, l[i] = (m : Int) := ⟨(l[i]).toNat, by omega⟩
   rw [hm, Int.toNat_natCast] at hs
   generalize zo (t ++ xC l.length) (l.take i) = A at hs hz ⊢
   have c3 := zV (t := A) (n := m) (by omega) (by omega)
   rw [← hm] at c3
   repeat ((first | refine qz ?_ | refine qr (xP [0] (c3) rfl rfl (by first | exact ⟨rfl, trivial⟩ | exact ⟨rfl, rfl, trivial⟩ | exact ⟨rfl, rfl, rfl, trivial⟩) rfl rfl (by first | exact trivial | exact ⟨⟨rfl, rfl, rfl⟩, trivial⟩ | exact ⟨⟨rfl, rfl, rfl⟩, ⟨rfl, rfl, rfl⟩, trivial⟩ | exact ⟨⟨rfl, rfl, rfl⟩, ⟨rfl, rfl, rfl⟩, ⟨rfl, rfl, rfl⟩, trivial⟩) rfl rfl rfl (.inl rfl) rfl) ?_); conv => whnf)
   rw [← hs]
   exact ⟨⟨i + 1, hlt⟩, by exact qle, by dsimp only; omega⟩
 · have e : i = l.length := by omega
   subst e
   rw [List.take_length]
   repeat ((refine qz ?_; conv => whnf))
   first | exact zq rfl | exact u6 rfl
theorem aHP {t : ByteArray} {e : Ent} (hk : e.1.size ≤ 12) (h0 : -1000000 ≤ e.2) (h1 : e.2 ≤ 1000000) (ht : t.size ≤ 70000000) : ACG Try.prog 59 [.optr 0 0 [] 0, zR e] [yL t] [yL (t ++ (uO e.1 ++ wI e.2))] ⟨.tup [], []⟩ := by
 have z1 := kG (t := e.1) (by omega)
 have c1 := aCs (t := t) (k := e.1) (by omega) (by omega)
 have c2 := aHR (t := t ++ uO e.1) (v := e.2) ⟨h0, h1⟩ (by rw [ByteArray.size_append]; omega)
 refine zY (rs := []) zm (by kernel_rfl) Try.func59 rfl Try.ntmps59 (by rw [Try.results59]) (by kernel_rfl) (by simp) rfl rfl (xY _ _ _ ?_)
 conv => whnf
 repeat ((first | refine qz ?_ | refine qr (xP [0] (c1) rfl rfl (by first | exact ⟨rfl, trivial⟩ | exact ⟨rfl, rfl, trivial⟩ | exact ⟨rfl, rfl, rfl, trivial⟩) rfl rfl (by first | exact trivial | exact ⟨⟨rfl, rfl, rfl⟩, trivial⟩ | exact ⟨⟨rfl, rfl, rfl⟩, ⟨rfl, rfl, rfl⟩, trivial⟩ | exact ⟨⟨rfl, rfl, rfl⟩, ⟨rfl, rfl, rfl⟩, ⟨rfl, rfl, rfl⟩, trivial⟩) rfl rfl rfl (.inl rfl) rfl) ?_ | refine qr (xP [0] (c2) rfl rfl (by first | exact ⟨rfl, trivial⟩ | exact ⟨rfl, rfl, trivial⟩ | exact ⟨rfl, rfl, rfl, trivial⟩) rfl rfl (by first | exact trivial | exact ⟨⟨rfl, rfl, rfl⟩, trivial⟩ | exact ⟨⟨rfl, rfl, rfl⟩, ⟨rfl, rfl, rfl⟩, trivial⟩ | exact ⟨⟨rfl, rfl, rfl⟩, ⟨rfl, rfl, rfl⟩, ⟨rfl, rfl, rfl⟩, trivial⟩) rfl rfl rfl (.inl rfl) rfl) ?_); conv => whnf)
 rw [ByteArray.append_assoc]
 first | exact zq rfl | exact u6 rfl
set_option maxHeartbeats 1000000 in
theorem aG9 {t : ByteArray} {l : List Ent} (hl : l.length ≤ 100) (hp : aEq l) (ht : t.size ≤ 60000000) :
 ACG Try.prog 58 [.optr 0 0 [] 0, .lst 2 (l.map zR), .fn 59 [.optr 0 0 [] 0] []] [yL t] [yL (uz (t ++ xC l.length) l)] ⟨.tup [], []⟩ := by
 have z1 := yF (n := l.length) (by omega)
 have c1 := zV (t := t) (n := l.length) (by omega) (by omega)
 refine zY (rs := []) zm (by kernel_rfl) Try.func58 rfl Try.ntmps58 (by rw [Try.results58]) (by kernel_rfl) (by simp) rfl rfl (xY _ _ _ ?_)
 conv => whnf
 repeat ((first | refine qz ?_ | refine qr (xP [0] (c1) rfl rfl (by first | exact ⟨rfl, trivial⟩ | exact ⟨rfl, rfl, trivial⟩ | exact ⟨rfl, rfl, rfl, trivial⟩) rfl rfl (by first | exact trivial | exact ⟨⟨rfl, rfl, rfl⟩, trivial⟩ | exact ⟨⟨rfl, rfl, rfl⟩, ⟨rfl, rfl, rfl⟩, trivial⟩ | exact ⟨⟨rfl, rfl, rfl⟩, ⟨rfl, rfl, rfl⟩, ⟨rfl, rfl, rfl⟩, trivial⟩) rfl rfl rfl (.inl rfl) rfl) ?_); conv => whnf)
 refine xX (ι := { i : Nat // i ≤ l.length }) (fun i => ⟨[(0, .optr 0 0 [] 0), (2, .fn 59 [.optr 0 0 [] 0] []), (12, .lst 2 (l.map zR)), (13, .v (.int .i64 (l.length : Int))), (14, .v (.int .i64 (i.1 : Int)))], [(0, yL (uz (t ++ xC l.length) (l.take i.1)))]⟩) (fun i => l.length - i.1) ⟨0, Nat.zero_le _⟩ (by exact qle) ?_
 rintro ⟨i, hi⟩
 dsimp only
 conv => whnf
 by_cases hlt : i < l.length
 · obtain ⟨k1, k2, k3⟩ := hp _ (List.getElem_mem hlt)
   have hs : uz (t ++ xC l.length) (l.take (i + 1)) = uz (t ++ xC l.length) (l.take i) ++ (uO (l[i]).1 ++ wI (l[i]).2) := zx hlt
   have hz := aAI (l.take i) (t ++ xC l.length) (fun p hp' => hp p (List.mem_of_mem_take hp'))
   rw [List.length_take, ByteArray.size_append] at hz
   generalize uz (t ++ xC l.length) (l.take i) = A at hs hz ⊢
   have c3 := aHP (t := A) k1 k2 k3 (by omega)
   repeat ((first | refine qz ?_ | refine qr (xP [0] (c3) rfl rfl (by first | exact ⟨rfl, trivial⟩ | exact ⟨rfl, rfl, trivial⟩ | exact ⟨rfl, rfl, rfl, trivial⟩) rfl rfl (by first | exact trivial | exact ⟨⟨rfl, rfl, rfl⟩, trivial⟩ | exact ⟨⟨rfl, rfl, rfl⟩, ⟨rfl, rfl, rfl⟩, trivial⟩ | exact ⟨⟨rfl, rfl, rfl⟩, ⟨rfl, rfl, rfl⟩, ⟨rfl, rfl, rfl⟩, trivial⟩) rfl rfl rfl (.inl rfl) rfl) ?_ | refine qst ?_); conv => whnf)
   rw [← hs]
   exact ⟨⟨i + 1, hlt⟩, by exact qle, by dsimp only; omega⟩
 · have e : i = l.length := by omega
   subst e
   rw [List.take_length]
   repeat ((refine qz ?_; conv => whnf))
   first | exact zq rfl | exact u6 rfl
theorem aEC {t : ByteArray} {c : Cmt} (h : CmtS c) (ht : t.size ≤ 50000000) : ACG Try.prog 32 [.optr 0 0 [] 0, x9 c] [yL t] [yL (t ++ uy c)] ⟨.tup [], []⟩ := by
 have hpl := h.pl
 have hml := h.ml
 have z1 := yF (n := c.1.length) (by omega)
 have hz := kE c.1 (t ++ xC c.1.length) (fun p hp => by have := h.pp p hp; omega)
 rw [ByteArray.size_append] at hz
 have c1 := aGa (t := t) (l := c.1) hpl h.pp (by omega)
 have c2 := aG9 (t := zo (t ++ xC c.1.length) c.1) (l := c.2) hml h.me (by omega)
 refine zY (rs := []) zm (by kernel_rfl) Try.func32 rfl Try.ntmps32 (by rw [Try.results32]) (by kernel_rfl) (by simp) rfl rfl (xY _ _ _ ?_)
 conv => whnf
 repeat ((first | refine qz ?_ | refine qr (xP [0] (c1) rfl rfl (by first | exact ⟨rfl, trivial⟩ | exact ⟨rfl, rfl, trivial⟩ | exact ⟨rfl, rfl, rfl, trivial⟩) rfl rfl (by first | exact trivial | exact ⟨⟨rfl, rfl, rfl⟩, trivial⟩ | exact ⟨⟨rfl, rfl, rfl⟩, ⟨rfl, rfl, rfl⟩, trivial⟩ | exact ⟨⟨rfl, rfl, rfl⟩, ⟨rfl, rfl, rfl⟩, ⟨rfl, rfl, rfl⟩, trivial⟩) rfl rfl rfl (.inl rfl) rfl) ?_ | refine qr (xP [0] (c2) rfl rfl (by first | exact ⟨rfl, trivial⟩ | exact ⟨rfl, rfl, trivial⟩ | exact ⟨rfl, rfl, rfl, trivial⟩) rfl rfl (by first | exact trivial | exact ⟨⟨rfl, rfl, rfl⟩, trivial⟩ | exact ⟨⟨rfl, rfl, rfl⟩, ⟨rfl, rfl, rfl⟩, trivial⟩ | exact ⟨⟨rfl, rfl, rfl⟩, ⟨rfl, rfl, rfl⟩, ⟨rfl, rfl, rfl⟩, trivial⟩) rfl rfl rfl (.inl rfl) rfl) ?_); conv => whnf)
 rw [aGf]
 first | exact zq rfl | exact u6 rfl
set_option maxHeartbeats 1000000 in
theorem aG8 {t : ByteArray} {l : List Cmt} (hl : l.length ≤ 60) (hp : ∀ c ∈ l, CmtS c ∧ c.1.length ≤ 2 ∧ c.2.length ≤ 12) (ht : t.size ≤ 40000000) :
 ACG Try.prog 43 [.optr 0 0 [] 0, .lst 2 (l.map x9), .fn 32 [.optr 0 0 [] 0] []] [yL t] [yL (uH (t ++ xC l.length) l)] ⟨.tup [], []⟩ := by
 have z1 := yF (n := l.length) (by omega)
 have c1 := zV (t := t) (n := l.length) (by omega) (by omega)
 refine zY (rs := []) zm (by kernel_rfl) Try.func43 rfl Try.ntmps43 (by rw [Try.results43]) (by kernel_rfl) (by simp) rfl rfl (xY _ _ _ ?_)
 conv => whnf
 repeat ((first | refine qz ?_ | refine qr (xP [0] (c1) rfl rfl (by first | exact ⟨rfl, trivial⟩ | exact ⟨rfl, rfl, trivial⟩ | exact ⟨rfl, rfl, rfl, trivial⟩) rfl rfl (by first | exact trivial | exact ⟨⟨rfl, rfl, rfl⟩, trivial⟩ | exact ⟨⟨rfl, rfl, rfl⟩, ⟨rfl, rfl, rfl⟩, trivial⟩ | exact ⟨⟨rfl, rfl, rfl⟩, ⟨rfl, rfl, rfl⟩, ⟨rfl, rfl, rfl⟩, trivial⟩) rfl rfl rfl (.inl rfl) rfl) ?_); conv => whnf)
 refine xX (ι := { i : Nat // i ≤ l.length }) (fun i => ⟨[(0, .optr 0 0 [] 0), (2, .fn 32 [.optr 0 0 [] 0] []), (12, .lst 2 (l.map x9)), (13, .v (.int .i64 (l.length : Int))), (14, .v (.int .i64 (i.1 : Int)))], [(0, yL (uH (t ++ xC l.length) (l.take i.1)))]⟩) (fun i => l.length - i.1) ⟨0, Nat.zero_le _⟩ (by exact qle) ?_
 rintro ⟨i, hi⟩
 dsimp only
 conv => whnf
 by_cases hlt : i < l.length
 · obtain ⟨k1, k2, k3⟩ := hp _ (List.getElem_mem hlt)
   have hs : uH (t ++ xC l.length) (l.take (i + 1)) = uH (t ++ xC l.length) (l.take i) ++ uy l[i] := zx hlt
   have hz := j4 (l.take i) (t ++ xC l.length) (fun p hp' => hp p (List.mem_of_mem_take hp'))
   rw [List.length_take, ByteArray.size_append] at hz
   generalize uH (t ++ xC l.length) (l.take i) = A at hs hz ⊢
   have c3 := aEC (t := A) k1 (by omega)
   repeat ((first | refine qz ?_ | refine qr (xP [0] (c3) rfl rfl (by first | exact ⟨rfl, trivial⟩ | exact ⟨rfl, rfl, trivial⟩ | exact ⟨rfl, rfl, rfl, trivial⟩) rfl rfl (by first | exact trivial | exact ⟨⟨rfl, rfl, rfl⟩, trivial⟩ | exact ⟨⟨rfl, rfl, rfl⟩, ⟨rfl, rfl, rfl⟩, trivial⟩ | exact ⟨⟨rfl, rfl, rfl⟩, ⟨rfl, rfl, rfl⟩, ⟨rfl, rfl, rfl⟩, trivial⟩) rfl rfl rfl (.inl rfl) rfl) ?_ | refine qst ?_); conv => whnf)
   rw [← hs]
   exact ⟨⟨i + 1, hlt⟩, by exact qle, by dsimp only; omega⟩
 · have e : i = l.length := by omega
   subst e
   rw [List.take_length]
   repeat ((refine qz ?_; conv => whnf))
   first | exact zq rfl | exact u6 rfl
theorem aHQ {t : ByteArray} {r : Rf} (h : RfS r) (ht : t.size ≤ 50000000) : ACG Try.prog 45 [.optr 0 0 [] 0, xq r] [yL t] [yL (t ++ wX r)] ⟨.tup [], []⟩ := by
 have hn := h.n
 have v0 := h.v0
 have v1 := h.v1
 have h0 := h.h0
 have h1 := h.h1
 obtain ⟨v, hv⟩ : ∃ v : Nat, r.ver = (v : Int) := ⟨r.ver.toNat, by omega⟩
 obtain ⟨d, hd⟩ : ∃ d : Nat, r.head = (d : Int) := ⟨r.head.toNat, by omega⟩
 have z1 := kG (t := r.name) (by omega)
 have z2 := yF (n := v) (by omega)
 have c1 := aCs (t := t) (k := r.name) (by omega) (by omega)
 have c2 := zV (t := t ++ uO r.name) (n := v) (by omega) (by rw [ByteArray.size_append]; omega)
 have c3 := zV (t := t ++ uO r.name ++ xC v) (n := d) (by omega) (by rw [ByteArray.size_append, ByteArray.size_append]; omega)
 have e : t ++ wX r = t ++ uO r.name ++ xC v ++ xC d := by
  unfold wX
  rw [hv, hd, Int.toNat_natCast, Int.toNat_natCast, ByteArray.append_assoc, ByteArray.append_assoc, ByteArray.append_assoc]
 rw [e]
 rw [← hv] at c2
 rw [← hd] at c3
 refine zY (rs := []) zm (by kernel_rfl) Try.func45 rfl Try.ntmps45 (by rw [Try.results45]) (by kernel_rfl) (by simp) rfl rfl (xY _ _ _ ?_)
 conv => whnf
 repeat ((first | refine qz ?_ | refine qr (xP [0] (c1) rfl rfl (by first | exact ⟨rfl, trivial⟩ | exact ⟨rfl, rfl, trivial⟩ | exact ⟨rfl, rfl, rfl, trivial⟩) rfl rfl (by first | exact trivial | exact ⟨⟨rfl, rfl, rfl⟩, trivial⟩ | exact ⟨⟨rfl, rfl, rfl⟩, ⟨rfl, rfl, rfl⟩, trivial⟩ | exact ⟨⟨rfl, rfl, rfl⟩, ⟨rfl, rfl, rfl⟩, ⟨rfl, rfl, rfl⟩, trivial⟩) rfl rfl rfl (.inl rfl) rfl) ?_ | refine qr (xP [0] (c2) rfl rfl (by first | exact ⟨rfl, trivial⟩ | exact ⟨rfl, rfl, trivial⟩ | exact ⟨rfl, rfl, rfl, trivial⟩) rfl rfl (by first | exact trivial | exact ⟨⟨rfl, rfl, rfl⟩, trivial⟩ | exact ⟨⟨rfl, rfl, rfl⟩, ⟨rfl, rfl, rfl⟩, trivial⟩ | exact ⟨⟨rfl, rfl, rfl⟩, ⟨rfl, rfl, rfl⟩, ⟨rfl, rfl, rfl⟩, trivial⟩) rfl rfl rfl (.inl rfl) rfl) ?_ | refine qr (xP [0] (c3) rfl rfl (by first | exact ⟨rfl, trivial⟩ | exact ⟨rfl, rfl, trivial⟩ | exact ⟨rfl, rfl, rfl, trivial⟩) rfl rfl (by first | exact trivial | exact ⟨⟨rfl, rfl, rfl⟩, trivial⟩ | exact ⟨⟨rfl, rfl, rfl⟩, ⟨rfl, rfl, rfl⟩, trivial⟩ | exact ⟨⟨rfl, rfl, rfl⟩, ⟨rfl, rfl, rfl⟩, ⟨rfl, rfl, rfl⟩, trivial⟩) rfl rfl rfl (.inl rfl) rfl) ?_); conv => whnf)
 first | exact zq rfl | exact u6 rfl
set_option maxHeartbeats 1000000 in
theorem aGb {t : ByteArray} {l : List Rf} (hl : l.length ≤ 8) (hp : ∀ r ∈ l, RfS r) (ht : t.size ≤ 40000000) :
 ACG Try.prog 44 [.optr 0 0 [] 0, .lst 4 (l.map xq), .fn 45 [.optr 0 0 [] 0] []] [yL t] [yL (vB (t ++ xC l.length) l)] ⟨.tup [], []⟩ := by
 have z1 := yF (n := l.length) (by omega)
 have c1 := zV (t := t) (n := l.length) (by omega) (by omega)
 refine zY (rs := []) zm (by kernel_rfl) Try.func44 rfl Try.ntmps44 (by rw [Try.results44]) (by kernel_rfl) (by simp) rfl rfl (xY _ _ _ ?_)
 conv => whnf
 repeat ((first | refine qz ?_ | refine qr (xP [0] (c1) rfl rfl (by first | exact ⟨rfl, trivial⟩ | exact ⟨rfl, rfl, trivial⟩ | exact ⟨rfl, rfl, rfl, trivial⟩) rfl rfl (by first | exact trivial | exact ⟨⟨rfl, rfl, rfl⟩, trivial⟩ | exact ⟨⟨rfl, rfl, rfl⟩, ⟨rfl, rfl, rfl⟩, trivial⟩ | exact ⟨⟨rfl, rfl, rfl⟩, ⟨rfl, rfl, rfl⟩, ⟨rfl, rfl, rfl⟩, trivial⟩) rfl rfl rfl (.inl rfl) rfl) ?_); conv => whnf)
 refine xX (ι := { i : Nat // i ≤ l.length }) (fun i => ⟨[(0, .optr 0 0 [] 0), (2, .fn 45 [.optr 0 0 [] 0] []), (12, .lst 4 (l.map xq)), (13, .v (.int .i64 (l.length : Int))), (14, .v (.int .i64 (i.1 : Int)))], [(0, yL (vB (t ++ xC l.length) (l.take i.1)))]⟩) (fun i => l.length - i.1) ⟨0, Nat.zero_le _⟩ (by exact qle) ?_
 rintro ⟨i, hi⟩
 dsimp only
 conv => whnf
 by_cases hlt : i < l.length
 · have k1 := hp _ (List.getElem_mem hlt)
   have hs : vB (t ++ xC l.length) (l.take (i + 1)) = vB (t ++ xC l.length) (l.take i) ++ wX l[i] := zx hlt
   have hz := jV (l.take i) (t ++ xC l.length) (fun p hp' => hp p (List.mem_of_mem_take hp'))
   rw [List.length_take, ByteArray.size_append] at hz
   generalize vB (t ++ xC l.length) (l.take i) = A at hs hz ⊢
   have c3 := aHQ (t := A) k1 (by omega)
   repeat ((first | refine qz ?_ | refine qr (xP [0] (c3) rfl rfl (by first | exact ⟨rfl, trivial⟩ | exact ⟨rfl, rfl, trivial⟩ | exact ⟨rfl, rfl, rfl, trivial⟩) rfl rfl (by first | exact trivial | exact ⟨⟨rfl, rfl, rfl⟩, trivial⟩ | exact ⟨⟨rfl, rfl, rfl⟩, ⟨rfl, rfl, rfl⟩, trivial⟩ | exact ⟨⟨rfl, rfl, rfl⟩, ⟨rfl, rfl, rfl⟩, ⟨rfl, rfl, rfl⟩, trivial⟩) rfl rfl rfl (.inl rfl) rfl) ?_ | refine qst ?_); conv => whnf)
   rw [← hs]
   exact ⟨⟨i + 1, hlt⟩, by exact qle, by dsimp only; omega⟩
 · have e : i = l.length := by omega
   subst e
   rw [List.take_length]
   repeat ((refine qz ?_; conv => whnf))
   first | exact zq rfl | exact u6 rfl
set_option maxHeartbeats 2000000 in
theorem aEB {t : ByteArray} (ht : t.size ≤ maxLen) : AC Try.prog 46 [.v (.string t)] ⟨.v (.int .i64 (wZ t)), []⟩ := by
 unfold maxLen at ht
 refine qrf Try.func46 Try.ntmps46 Try.results46 ?_; conv => whnf
 repeat ((refine qz ?_; conv => whnf))
 refine xX (ι := { i : Nat // i ≤ t.size }) (fun i => ⟨[(0, .v (.string t)), (3, .v (.int .i64 (kW (t.data.toList.take i.1)))), (6, .v (.int .i64 (t.size : Int))), (7, .v (.int .i64 (i.1 : Int)))], []⟩) (fun i => t.size - i.1) ⟨0, Nat.zero_le _⟩ (by exact qle) ?_
 rintro ⟨i, hi⟩
 dsimp only
 conv => whnf
 by_cases hlt : i < t.size
 · have hs := aC2 hlt
   have hb := aAT (t.data.toList.take i)
   have h8 := (t[i]).toNat_lt
   generalize kW (t.data.toList.take i) = m at hs hb ⊢
   repeat ((first | refine qp (xQ (jO (c := m * 31) (by omega) (by omega) (by omega)) rfl rfl rfl) ?_ | refine qz ?_ | refine qp (aEZ (zm 9) rfl rfl hlt) ?_ | refine qp (aHK rfl h8) ?_ | refine qp (xQ (aCu (by omega) (by omega) hs.symm) rfl rfl rfl) ?_); conv => whnf)
   exact ⟨⟨i + 1, hlt⟩, by exact qle, by simp; omega⟩
 · have e : i = t.size := by omega
   subst e
   have hall : t.data.toList.take t.size = t.data.toList := List.take_of_length_le (by rw [Array.length_toList]; exact Nat.le_refl _)
   repeat ((refine qz ?_; conv => whnf))
   rw [hall]
   exact xA rfl trivial
theorem aFW {t : ByteArray} (ht : t.size ≤ maxLen) : AC Try.prog 20 [.v (.string t)] ⟨.tup [.v (.int .i64 (qH t).1), .v (.int .i64 (qH t).2)], []⟩ := by
 have c1 := aEB ht
 unfold maxLen at ht
 unfold qH
 by_cases h : 65536 < t.size
 · rw [if_pos h]
   refine qrf Try.func20 Try.ntmps20 Try.results20 ?_; conv => whnf
   repeat ((refine qz ?_; conv => whnf))
   exact y7 rfl rfl
 · rw [if_neg h]
   refine qrf Try.func20 Try.ntmps20 Try.results20 ?_; conv => whnf
   repeat ((first | refine qz ?_ | refine qc (c1) ?_); conv => whnf)
   exact y7 rfl rfl
theorem aFp {c : Cmt} (h : c.1.length = 0) : vX 0 c = vk c := by
 have hc : c.1 = [] := List.eq_nil_of_length_eq_zero h
 have hp : vP 0 c.1 = true := by unfold vP; simp only [decide_eq_true_eq]; exact ⟨by omega, by simp [h], fun i hi => by omega⟩
 unfold vX vk
 rw [hp, hc]
 rfl
theorem aFo {c : Cmt} (h : ¬ c.1.length = 0) : vX 60 c = vk c := by
 unfold vX vk
 congr 1
 obtain ⟨ps, m⟩ := c
 dsimp only at h ⊢
 unfold vP
 match ps, h with
 | [p], _ =>
  have e : wG ((([p] : List Int)[0]?).getD 0) 0 [p] = decide (1 ≤ p ∧ p ≤ 60) := by simp [wG, aAk]
  rw [e]
  rw [show decide (([p] : List Int).length ≤ 2) = true from rfl, Bool.true_and, decide_eq_decide]
  constructor
  · rintro ⟨_, _, h3⟩
    obtain ⟨_, g1, g2, _⟩ := h3 0 (by simp)
    exact ⟨by simpa using g1, by simpa using g2⟩
  · rintro ⟨h1, h2⟩
    refine ⟨by simp, by simp, fun i hi => ?_⟩
    have : i = 0 := by simp at hi; exact hi
    subst this
    exact ⟨by simp, by simpa using h1, by simpa using h2, by simp⟩
 | [p, q], _ =>
  have e : wG ((([p, q] : List Int)[0]?).getD 0) 0 [p, q] = decide ((1 ≤ p ∧ p ≤ 60) ∧ (1 ≤ q ∧ q ≤ 60) ∧ ¬ q = p) := by
   simp [wG, aAk, Bool.decide_and]
  rw [e]
  rw [show decide (([p, q] : List Int).length ≤ 2) = true from rfl, Bool.true_and, decide_eq_decide]
  constructor
  · rintro ⟨_, _, h3⟩
    obtain ⟨_, g1, g2, _⟩ := h3 0 (by simp)
    obtain ⟨_, k1, k2, k3⟩ := h3 1 (by simp)
    exact ⟨⟨by simpa using g1, by simpa using g2⟩, ⟨by simpa using k1, by simpa using k2⟩, by simpa using k3⟩
  · rintro ⟨⟨h1, h2⟩, ⟨h3, h4⟩, h5⟩
    refine ⟨by simp, by simp, fun i hi => ?_⟩
    have : i = 0 ∨ i = 1 := by simp at hi; omega
    rcases this with rfl | rfl
    · exact ⟨by simp, by simpa using h1, by simpa using h2, by simp⟩
    · exact ⟨by simp, by simpa using h3, by simpa using h4, by simpa using h5⟩
 | p :: q :: r :: l, _ =>
  have h1 : decide ((p :: q :: r :: l).length ≤ 2) = false := by simp
  rw [h1, Bool.false_and, decide_eq_false_iff_not]
  rintro ⟨h2, _⟩
  simp at h2
theorem aCh {c : Cmt} (hm : c.1.length ≤ maxLen) (hn : c.2.length ≤ maxLen) (hk : ∀ e ∈ c.2, e.1.size ≤ maxLen) : AC Try.prog 31 [x9 c] ⟨.v (.bool (vk c)), []⟩ := by
 by_cases h0 : c.1.length = 0
 · have c1 := jD (n := 0) (by omega) hm hn hk
   rw [aFp h0] at c1
   generalize vk c = q at c1 ⊢
   refine qrf Try.func31 Try.ntmps31 Try.results31 ?_; conv => whnf
   repeat ((first | refine qz ?_ | refine qc (c1) ?_); conv => whnf)
   exact xA rfl trivial
 · have c1 := jD (n := 60) (by omega) hm hn hk
   rw [aFo h0] at c1
   generalize vk c = q at c1 ⊢
   unfold maxLen at hm
   refine qrf Try.func31 Try.ntmps31 Try.results31 ?_; conv => whnf
   repeat ((first | refine qz ?_ | refine qc (c1) ?_); conv => whnf)
   exact xA rfl trivial
end Go.Proofs.Ytoaifonjemlfcaa.AM
namespace Go.Proofs.Ytoaifonjemlfcaa.AM
open Go Go.RowKit
section
variable {Θ : Tab} {ops : Array Oper} {k : Nat} {s : St}
end
section
variable {P : Program} {Θ : Tab} {s : St} {ty : TypeId} {pos : String} {after : Array Edge} {g : Option (Nat × Bool)}
end
mutual
def jI : AV → List Nat
 | .own l => [l]
 | .optr l _ _ _ => [l]
 | .mapv l => [l]
 | .tup xs => jl xs
 | .mix xs => jl xs
 | .fn _ xs ys => jl xs ++ jl ys
 | .ifc _ x => jI x
 | _ => []
def jl : List AV → List Nat
 | [] => []
 | x :: xs => jI x ++ jl xs
end
mutual
theorem aBU {l : Nat} : ∀ x : AV, x.names l = true → l ∈ jI x
 | .own l', h => by simp only [AV.names] at h; simp [jI, Nat.eq_of_beq_eq_true h]
 | .optr l' _ _ _, h => by simp only [AV.names] at h; simp [jI, Nat.eq_of_beq_eq_true h]
 | .mapv l', h => by simp only [AV.names] at h; simp [jI, Nat.eq_of_beq_eq_true h]
 | .tup xs, h => by simp only [AV.names] at h; unfold jI; exact vE xs h
 | .mix xs, h => by simp only [AV.names] at h; unfold jI; exact vE xs h
 | .fn _ xs ys, h => by
  simp only [AV.names, Bool.or_eq_true] at h; unfold jI
  exact List.mem_append.2 (h.imp (vE xs) (vE ys))
 | .ifc _ x, h => by simp only [AV.names] at h; unfold jI; exact aBU x h
 | .any, h => by simp [AV.names] at h
 | .v _, h => by simp [AV.names] at h
 | .agg _, h => by simp [AV.names] at h
 | .lst _ _, h => by simp [AV.names] at h
 | .ptr _, h => by simp [AV.names] at h
 | .rd _, h => by simp [AV.names] at h
theorem vE {l : Nat} : ∀ xs : List AV, xI l xs = true → l ∈ jl xs
 | [], h => by simp [xI] at h
 | x :: xs, h => by
  simp only [xI, Bool.or_eq_true] at h; unfold jl
  exact List.mem_append.2 (h.imp (aBU x) (vE xs))
end
section
variable {P : Program} {Θ : Tab} {n : Nat} {ops : Array Oper} {k : Nat} {s : St} {o : Oper} {u : AV} {ks : List Nat} {nu : List (Nat × Option OB)}
end
abbrev vo (x : AV) : Bool := x.within (fun _ => false)
mutual
theorem aBx (s s' : St) : ∀ x : AV, vo x = true → s'.dat x = s.dat x
 | .own l, h => by simp [vo, AV.within] at h
 | .optr l _ _ _, h => by simp [vo, AV.within] at h
 | .mix xs, h => by unfold St.dat; rw [aBD s s' xs (by simpa [vo, AV.within] using h)]
 | .ifc t x, h => by unfold St.dat; rw [aBx s s' x (by simpa [vo, AV.within] using h)]
 | .mapv l, h => by simp [vo, AV.within] at h
 | .tup xs, h => by simp [St.dat]
 | .fn _ xs ys, h => by simp [St.dat]
 | .any, h => by simp [St.dat]
 | .v _, h => by simp [St.dat]
 | .agg _, h => by simp [St.dat]
 | .lst _ _, h => by simp [St.dat]
 | .ptr _, h => by simp [St.dat]
 | .rd _, h => by simp [St.dat]
theorem aBD (s s' : St) : ∀ xs : List AV, yo (fun _ => false) xs = true → s'.datL xs = s.datL xs
 | [], _ => by simp [St.datL]
 | x :: xs, h => by
  simp only [yo, Bool.and_eq_true] at h
  simp only [St.datL]; rw [aBx s s' x h.1, aBD s s' xs h.2]
end
mutual
theorem aDI (s s' : St) : ∀ x : AV, vo x = true → xG s' x = xG s x
 | .own l, h => by simp [vo, AV.within] at h
 | .optr l _ _ _, h => by simp [vo, AV.within] at h
 | .mix xs, h => by unfold xG; rw [qJ s s' xs (by simpa [vo, AV.within] using h)]
 | .ifc t x, h => by simp [xG]
 | .mapv l, h => by simp [vo, AV.within] at h
 | .tup xs, h => by simp [xG]
 | .fn _ xs ys, h => by simp [xG]
 | .any, h => by simp [xG]
 | .v _, h => by simp [xG]
 | .agg _, h => by simp [xG]
 | .lst _ _, h => by simp [xG]
 | .ptr _, h => by simp [xG]
 | .rd _, h => by simp [xG]
theorem qJ (s s' : St) : ∀ xs : List AV, yo (fun _ => false) xs = true → yw s' xs = yw s xs
 | [], _ => by simp [yw]
 | x :: xs, h => by
  simp only [yo, Bool.and_eq_true] at h
  simp only [yw]; rw [aDI s s' x h.1, qJ s s' xs h.2]
end
section
variable {P : Program} {Θ : Tab} {s : St} {ty : TypeId} {pos : String} {after : Array Edge} {g : Option (Nat × Bool)}
end
section
variable {P : Program} {Θ : Tab} {s : St} {ty : TypeId} {pos : String} {after : Array Edge} {g : Option (Nat × Bool)}
end
section
variable {P : Program} {Θ : Tab} {s : St} {ty : TypeId} {pos : String} {after : Array Edge} {g : Option (Nat × Bool)}
end
mutual
theorem aEL {s s' : St} : ∀ x : AV, (∀ l, x.names l = true → s'.hp l = s.hp l) → s'.dat x = s.dat x ∧ xG s' x = xG s x
 | .own l, h => by
  have := h l (by simp [AV.names])
  simp only [St.dat, xG, this, and_self]
 | .optr l i p c, h => by
  have := h l (by simp [AV.names])
  simp only [St.dat, xG, this, and_self]
 | .mix xs, h => by
  obtain ⟨h1, h2⟩ := aCz xs (fun l hl => h l (by simpa [AV.names] using hl))
  simp only [St.dat, xG, h1, h2, and_self]
 | .ifc t x, h => by
  obtain ⟨h1, _⟩ := aEL x (fun l hl => h l (by simpa [AV.names] using hl))
  simp only [St.dat, xG, h1, and_self]
 | .rd x, _ => ⟨rfl, rfl⟩
 | .any, _ => ⟨rfl, rfl⟩
 | .v _, _ => ⟨rfl, rfl⟩
 | .agg _, _ => ⟨rfl, rfl⟩
 | .lst _ _, _ => ⟨rfl, rfl⟩
 | .ptr _, _ => ⟨rfl, rfl⟩
 | .tup _, _ => ⟨rfl, rfl⟩
 | .mapv _, _ => ⟨rfl, rfl⟩
 | .fn _ _ _, _ => ⟨rfl, rfl⟩
theorem aCz {s s' : St} : ∀ xs : List AV, (∀ l, xI l xs = true → s'.hp l = s.hp l) → s'.datL xs = s.datL xs ∧ yw s' xs = yw s xs
 | [], _ => ⟨rfl, rfl⟩
 | x :: xs, h => by
  obtain ⟨h1, h2⟩ := aEL x (fun l hl => h l (by simp [xI, hl]))
  obtain ⟨h3, h4⟩ := aCz xs (fun l hl => h l (by simp [xI, hl]))
  simp only [St.datL, yw, h1, h2, h3, h4, and_self]
end
section
variable {P : Program} {Θ : Tab} {s : St} {ty : TypeId} {pos : String} {after : Array Edge} {g : Option (Nat × Bool)}
end
section
variable {P : Program} {Θ : Tab} {s : St} {ty : TypeId} {pos : String} {after : Array Edge} {g : Option (Nat × Bool)}
end
end Go.Proofs.Ytoaifonjemlfcaa.AM
namespace Go.Proofs.Ytoaifonjemlfcaa
open Go.RowKit
end Go.Proofs.Ytoaifonjemlfcaa
namespace Go.Proofs.Ytoaifonjemlfcaa
open Go Go.RowKit
end Go.Proofs.Ytoaifonjemlfcaa
namespace Go.Proofs.Ytoaifonjemlfcaa.AM
open Go Go.RowKit
section
variable {w : World}
end
section
variable {P : Program} {Θ : Tab} {s : St} {ty : TypeId} {pos : String} {after : Array Edge} {g : Option (Nat × Bool)}
end
attribute [local irreducible] xM xO yD yu zU Pre ACG
end Go.Proofs.Ytoaifonjemlfcaa.AM
namespace Go.Proofs.Ytoaifonjemlfcaa.AM
open Go Go.RowKit
section
variable {P : Program} {Θ : Tab} {s : St} {ty : TypeId} {pos : String} {after : Array Edge} {g : Option (Nat × Bool)}
end
attribute [local irreducible] xM xO yD yu zU Pre ACG
end Go.Proofs.Ytoaifonjemlfcaa.AM
namespace Go.Proofs.Ytoaifonjemlfcaa.AM
open Go Go.RowKit
section
variable {P : Program} {Θ : Tab} {s : St} {ty : TypeId} {pos : String} {after : Array Edge} {g : Option (Nat × Bool)}
end
attribute [local irreducible] xM xO yD yu zU Pre ACG
theorem aC7 {n : Int} (h2 : AC Try.prog 8 [.v (.int .i64 n)] ⟨.tup [.v (.string (qC n).1), .v (.int .i64 (qC n).2)], []⟩) : AC Try.prog 3 [.v (.int .i64 n)] ⟨.v (.bool true), []⟩ := by
 have h1 := aHO (n := n)
 generalize qC n = R at h1 h2
 refine qrf Try.func3 Try.ntmps3 Try.results3 ?_; conv => whnf
 repeat ((first | refine qz ?_ | refine qc (h1) ?_ | refine qc (h2) ?_ | refine qp (xQ (aAF rfl) rfl rfl rfl) ?_); conv => whnf)
 exact xA rfl trivial
theorem aFm {t : ByteArray} (ht : t.size ≤ maxLen) (h2 : AC Try.prog 20 [.v (.string t)] ⟨.tup [.v (.int .i64 (qH t).1), .v (.int .i64 (qH t).2)], []⟩) : AC Try.prog 6 [.v (.string t)] ⟨.v (.bool true), []⟩ := by
 have ht' := ht
 unfold maxLen at ht'
 by_cases hl : 1048576 < t.size
 · refine qrf Try.func6 Try.ntmps6 Try.results6 ?_; conv => whnf
   repeat ((refine qz ?_; conv => whnf))
   exact xA rfl trivial
 have h1 := aFX ht
 generalize qH t = R at h1 h2
 refine qrf Try.func6 Try.ntmps6 Try.results6 ?_; conv => whnf
 repeat ((first | refine qz ?_ | refine qc (h1) ?_ | refine qc (h2) ?_); conv => whnf)
 exact xA rfl trivial
theorem aAj {c : Cmt} (hc1 : uP maxLen [c]) (h2 : AC Try.prog 12 [x9 c] ⟨.tup [.v (.string (jf c).1), .v (.int .i64 (jf c).2)], []⟩) : AC Try.prog 4 [x9 c] ⟨.v (.bool true), []⟩ := by
 obtain ⟨p1, p2, p3⟩ := hc1 c (by simp)
 have s1 := jE (l := 1048576) p1 p2 p3 (by omega) (by omega)
 by_cases hsz1 : szC c 1048576 < 0
 · refine qrf Try.func4 Try.ntmps4 Try.results4 ?_; conv => whnf
   repeat ((first | refine qz ?_ | refine qc (s1) ?_); conv => whnf)
   exact xA rfl trivial
 obtain ⟨q0, q1, q2, q3⟩ := aDc (by omega : 0 ≤ szC c 1048576)
 have t3 := aAZ (c := c) (by omega) (by omega)
 have e2 := aAX (c := c) p1 p2
 have h1 := aG6 p1 p2 p3
 generalize jf c = R at h1 h2
 refine qrf Try.func4 Try.ntmps4 Try.results4 ?_; conv => whnf
 repeat ((first | refine qz ?_ | refine qc (s1) ?_ | refine qc (t3) ?_ | refine qc (h1) ?_ | refine qc (h2) ?_ | refine qc (e2) ?_ | refine qst ?_ | refine qdr ?_ | refine qp (xQ (aAF rfl) rfl rfl rfl) ?_); conv => whnf)
 exact xA rfl trivial
theorem aBe {b : Bas} (hs : b.store.length ≤ maxLen ∧ uP maxLen b.store) (hr : b.refs.length ≤ maxLen) (hk : ∀ r ∈ b.refs, r.name.size ≤ maxLen)
 (h2 : AC Try.prog 17 [uE b] ⟨.tup [.v (.string (encR b).1), .v (.int .i64 (encR b).2)], []⟩) : AC Try.prog 5 [uE b] ⟨.v (.bool true), []⟩ := by
 have hb : b.ok maxLen := ⟨hs.1, hs.2, hr, hk⟩
 have hz := aFY hb (l := 1048576) (by omega) (by omega)
 by_cases hsz : szB b 1048576 < 0
 · refine qrf Try.func5 Try.ntmps5 Try.results5 ?_; conv => whnf
   repeat ((first | refine qz ?_ | refine qc (hz) ?_); conv => whnf)
   exact xA rfl trivial
 obtain ⟨m0, m1, m2, m3⟩ := aIf (by omega : 0 ≤ szB b 1048576) (by omega)
 have h1 := aG5 hb
 have h3 := aF0 m1 m2 m3
 have h4 := aFT hb
 generalize encR b = R at h1 h2
 refine qrf Try.func5 Try.ntmps5 Try.results5 ?_; conv => whnf
 repeat ((first | refine qz ?_ | refine qc (hz) ?_ | refine qc (h3) ?_ | refine qc (h1) ?_ | refine qc (h2) ?_ | refine qc (h4) ?_ | refine qst ?_ | refine qdr ?_ | refine qp (xQ (aAF rfl) rfl rfl rfl) ?_); conv => whnf)
 exact xA rfl trivial
end Go.Proofs.Ytoaifonjemlfcaa.AM
namespace Go.Proofs.Ytoaifonjemlfcaa.AM
open Go Go.RowKit
theorem aGh (n : Nat) : 0 < (vN n).length := by
 rw [vN]
 split <;> simp
theorem aAb (n : Nat) : (xC n).size ≠ 0 := by
 have := aGh n
 have e : (xC n).size = (vN n).length := by simp [xC, ByteArray.size]
 omega
theorem aAi {α : Type} {f : α → ByteArray} : ∀ (l : List α) (a : ByteArray), a.size ≤ (l.foldl (fun t x => t ++ f x) a).size
 | [], a => Nat.le_refl _
 | x :: l, a => by
  simp only [List.foldl_cons]
  have := aAi (f := f) l (a ++ f x)
  rw [ByteArray.size_append] at this
  omega
theorem qV (t : ByteArray) : ByteArray.empty ++ t = t := by apply ByteArray.ext; simp
theorem aGe (c : Cmt) : (uy c).size ≠ 0 := by
 unfold uy
 have h1 : (zo (xC c.1.length) c.1 ++ xC c.2.length).size ≤ (uz (zo (xC c.1.length) c.1 ++ xC c.2.length) c.2).size := aAi _ _
 have h2 := aAb c.2.length
 rw [ByteArray.size_append] at h1
 omega
attribute [local irreducible] xM xO yD yu zU Pre ACG
theorem aHN {n : Int} : AC Try.prog 8 [.v (.int .i64 n)] ⟨.tup [.v (.string (qC n).1), .v (.int .i64 (qC n).2)], []⟩ := by
 unfold qC
 refine zY (rs := [.tmp 2, .tmp 3]) zm (by kernel_rfl) Try.func8 rfl Try.ntmps8 (by rw [Try.results8]) (by kernel_rfl) (by simp) rfl rfl (jM _ _ _ ?_)
 conv => whnf
 by_cases h : 0 ≤ n ∧ n ≤ 4000000
 · rw [if_pos h]
   obtain ⟨m, rfl⟩ : ∃ m : Nat, n = (m : Int) := ⟨n.toNat, by omega⟩
   rw [Int.toNat_natCast]
   have c1 := zV (t := ByteArray.empty) (n := m) (by omega) (by decide)
   rw [qV] at c1
   have c2 := aAw (aAb m)
   repeat ((first | refine qz ?_ | refine aAq rfl rfl ?_ | refine qr (xP [5] (c1) rfl rfl (by first | exact ⟨rfl, trivial⟩ | exact ⟨rfl, rfl, trivial⟩ | exact ⟨rfl, rfl, rfl, trivial⟩) rfl rfl (by first | exact trivial | exact ⟨⟨rfl, rfl, rfl⟩, trivial⟩ | exact ⟨⟨rfl, rfl, rfl⟩, ⟨rfl, rfl, rfl⟩, trivial⟩ | exact ⟨⟨rfl, rfl, rfl⟩, ⟨rfl, rfl, rfl⟩, ⟨rfl, rfl, rfl⟩, trivial⟩) rfl rfl rfl (.inl rfl) rfl) ?_ | refine qr (xP [5] (c2) rfl rfl (by first | exact ⟨rfl, trivial⟩ | exact ⟨rfl, rfl, trivial⟩ | exact ⟨rfl, rfl, rfl, trivial⟩) rfl rfl (by first | exact trivial | exact ⟨⟨rfl, rfl, rfl⟩, trivial⟩ | exact ⟨⟨rfl, rfl, rfl⟩, ⟨rfl, rfl, rfl⟩, trivial⟩ | exact ⟨⟨rfl, rfl, rfl⟩, ⟨rfl, rfl, rfl⟩, ⟨rfl, rfl, rfl⟩, trivial⟩) rfl rfl rfl (.inl rfl) rfl) ?_); conv => whnf)
   exact y7 rfl rfl
 · rw [if_neg h]
   by_cases h1 : n < 0
   · repeat ((refine qz ?_; conv => whnf))
     exact y7 rfl rfl
   · repeat ((refine qz ?_; conv => whnf))
     exact y7 rfl rfl
theorem aGZ {c : Cmt} (hm : c.1.length ≤ maxLen) (hn : c.2.length ≤ maxLen) (hk : ∀ e ∈ c.2, e.1.size ≤ maxLen) : AC Try.prog 12 [x9 c] ⟨.tup [.v (.string (jf c).1), .v (.int .i64 (jf c).2)], []⟩ := by
 have c0 := aCh hm hn hk
 unfold jf
 refine zY (rs := [.tmp 2, .tmp 3]) zm (by kernel_rfl) Try.func12 rfl Try.ntmps12 (by rw [Try.results12]) (by kernel_rfl) (by simp) rfl rfl (jM _ _ _ ?_)
 conv => whnf
 cases h : vk c
 · rw [h] at c0
   rw [if_neg (by simp)]
   repeat ((first | refine qz ?_ | refine qc (c0) ?_); conv => whnf)
   exact y7 rfl rfl
 · rw [h] at c0
   rw [if_pos rfl]
   have c1 := aEC (t := ByteArray.empty) (aFn h) (by decide)
   rw [qV] at c1
   have c2 := aAw (aGe c)
   repeat ((first | refine qz ?_ | refine qc (c0) ?_ | refine aAq rfl rfl ?_ | refine qr (xP [5] (c1) rfl rfl (by first | exact ⟨rfl, trivial⟩ | exact ⟨rfl, rfl, trivial⟩ | exact ⟨rfl, rfl, rfl, trivial⟩) rfl rfl (by first | exact trivial | exact ⟨⟨rfl, rfl, rfl⟩, trivial⟩ | exact ⟨⟨rfl, rfl, rfl⟩, ⟨rfl, rfl, rfl⟩, trivial⟩ | exact ⟨⟨rfl, rfl, rfl⟩, ⟨rfl, rfl, rfl⟩, ⟨rfl, rfl, rfl⟩, trivial⟩) rfl rfl rfl (.inl rfl) rfl) ?_ | refine qr (xP [5] (c2) rfl rfl (by first | exact ⟨rfl, trivial⟩ | exact ⟨rfl, rfl, trivial⟩ | exact ⟨rfl, rfl, rfl, trivial⟩) rfl rfl (by first | exact trivial | exact ⟨⟨rfl, rfl, rfl⟩, trivial⟩ | exact ⟨⟨rfl, rfl, rfl⟩, ⟨rfl, rfl, rfl⟩, trivial⟩ | exact ⟨⟨rfl, rfl, rfl⟩, ⟨rfl, rfl, rfl⟩, ⟨rfl, rfl, rfl⟩, trivial⟩) rfl rfl rfl (.inl rfl) rfl) ?_); conv => whnf)
   exact y7 rfl rfl
theorem aCv (b : Bas) : (vL b).size ≠ 0 := by
 unfold vL vB uH
 have h1 := aAi (f := wX) b.refs ((b.store.foldl (fun t c => t ++ uy c) (brB ++ xC b.store.length)) ++ xC b.refs.length)
 have h2 := aAb b.refs.length
 rw [ByteArray.size_append] at h1
 omega
set_option maxHeartbeats 2000000 in
theorem aGY {b : Bas} (hb : b.ok maxLen) : AC Try.prog 17 [uE b] ⟨.tup [.v (.string (encR b).1), .v (.int .i64 (encR b).2)], []⟩ := by
 have c0 := aEg hb
 unfold encR
 refine zY (rs := [.tmp 2, .tmp 3]) zm (by kernel_rfl) Try.func17 rfl Try.ntmps17 (by rw [Try.results17]) (by kernel_rfl) (by simp) rfl rfl (jM _ _ _ ?_)
 conv => whnf
 cases h : jd b
 · rw [h] at c0
   rw [if_neg (by simp)]
   repeat ((first | refine qz ?_ | refine qc (c0) ?_); conv => whnf)
   exact y7 rfl rfl
 · rw [h] at c0
   rw [if_pos rfl]
   have hs := aF5 h
   have hsl := hs.sl
   have hrl := hs.rl
   have z0 : brB.size = 3 := rfl
   have z1 := yF (n := b.store.length) (by omega)
   have z2 := yF (n := b.refs.length) (by omega)
   have y1 := j4 b.store (brB ++ xC b.store.length) hs.sc
   rw [ByteArray.size_append] at y1
   have y2 := jV b.refs (uH (brB ++ xC b.store.length) b.store ++ xC b.refs.length) hs.rr
   rw [ByteArray.size_append] at y2
   have y3 : (vL b).size ≤ 60000 := by unfold vL; omega
   have y4 := aAT (vL b).data.toList
   have c1 := aHC (t := ByteArray.empty) (s := brB) (by decide) (by decide)
   rw [qV] at c1
   have c2 := aG8 (t := brB) (l := b.store) hsl hs.sc (by omega)
   have c3 := aGb (t := uH (brB ++ xC b.store.length) b.store) (l := b.refs) hrl hs.rr (by omega)
   have e1 : vB (uH (brB ++ xC b.store.length) b.store ++ xC b.refs.length) b.refs = vL b := rfl
   rw [e1] at c3
   have c4 := aAw (aCv b)
   have c5 := aEB (t := vL b) (by unfold maxLen; omega)
   obtain ⟨m, hm⟩ : ∃ m : Nat, wZ (vL b) = (m : Int) := ⟨(wZ (vL b)).toNat, by unfold wZ; omega⟩
   have hm2 : m ≤ 1000003 := by unfold wZ at hm; omega
   have c6 := zV (t := vL b) (n := m) (by omega) (by omega)
   have e2 : vL b ++ xC m = qQ b := by unfold qQ; rw [hm, Int.toNat_natCast]
   rw [e2] at c6
   rw [hm] at c5
   have c7 := aAw (t := qQ b) (by unfold qQ; rw [ByteArray.size_append]; have := aCv b; omega)
   generalize qQ b = E at c6 c7 ⊢
   generalize uH (brB ++ xC b.store.length) b.store = A at c2 c3
   generalize vL b = D at c3 c4 c5 c6
   repeat ((first | refine qz ?_ | refine qc (c0) ?_ | refine aAq rfl rfl ?_ | refine qr (xP [5] (c1) rfl rfl (by first | exact ⟨rfl, trivial⟩ | exact ⟨rfl, rfl, trivial⟩ | exact ⟨rfl, rfl, rfl, trivial⟩) rfl rfl (by first | exact trivial | exact ⟨⟨rfl, rfl, rfl⟩, trivial⟩ | exact ⟨⟨rfl, rfl, rfl⟩, ⟨rfl, rfl, rfl⟩, trivial⟩ | exact ⟨⟨rfl, rfl, rfl⟩, ⟨rfl, rfl, rfl⟩, ⟨rfl, rfl, rfl⟩, trivial⟩) rfl rfl rfl (.inl rfl) rfl) ?_ | refine qr (xP [5] (c2) rfl rfl (by first | exact ⟨rfl, trivial⟩ | exact ⟨rfl, rfl, trivial⟩ | exact ⟨rfl, rfl, rfl, trivial⟩) rfl rfl (by first | exact trivial | exact ⟨⟨rfl, rfl, rfl⟩, trivial⟩ | exact ⟨⟨rfl, rfl, rfl⟩, ⟨rfl, rfl, rfl⟩, trivial⟩ | exact ⟨⟨rfl, rfl, rfl⟩, ⟨rfl, rfl, rfl⟩, ⟨rfl, rfl, rfl⟩, trivial⟩) rfl rfl rfl (.inl rfl) rfl) ?_ | refine qr (xP [5] (c3) rfl rfl (by first | exact ⟨rfl, trivial⟩ | exact ⟨rfl, rfl, trivial⟩ | exact ⟨rfl, rfl, rfl, trivial⟩) rfl rfl (by first | exact trivial | exact ⟨⟨rfl, rfl, rfl⟩, trivial⟩ | exact ⟨⟨rfl, rfl, rfl⟩, ⟨rfl, rfl, rfl⟩, trivial⟩ | exact ⟨⟨rfl, rfl, rfl⟩, ⟨rfl, rfl, rfl⟩, ⟨rfl, rfl, rfl⟩, trivial⟩) rfl rfl rfl (.inl rfl) rfl) ?_ | refine qr (xP [5] (c4) rfl rfl (by first | exact ⟨rfl, trivial⟩ | exact ⟨rfl, rfl, trivial⟩ | exact ⟨rfl, rfl, rfl, trivial⟩) rfl rfl (by first | exact trivial | exact ⟨⟨rfl, rfl, rfl⟩, trivial⟩ | exact ⟨⟨rfl, rfl, rfl⟩, ⟨rfl, rfl, rfl⟩, trivial⟩ | exact ⟨⟨rfl, rfl, rfl⟩, ⟨rfl, rfl, rfl⟩, ⟨rfl, rfl, rfl⟩, trivial⟩) rfl rfl rfl (.inl rfl) rfl) ?_ | refine qc (c5) ?_ | refine qr (xP [5] (c6) rfl rfl (by first | exact ⟨rfl, trivial⟩ | exact ⟨rfl, rfl, trivial⟩ | exact ⟨rfl, rfl, rfl, trivial⟩) rfl rfl (by first | exact trivial | exact ⟨⟨rfl, rfl, rfl⟩, trivial⟩ | exact ⟨⟨rfl, rfl, rfl⟩, ⟨rfl, rfl, rfl⟩, trivial⟩ | exact ⟨⟨rfl, rfl, rfl⟩, ⟨rfl, rfl, rfl⟩, ⟨rfl, rfl, rfl⟩, trivial⟩) rfl rfl rfl (.inl rfl) rfl) ?_ | refine qr (xP [5] (c7) rfl rfl (by first | exact ⟨rfl, trivial⟩ | exact ⟨rfl, rfl, trivial⟩ | exact ⟨rfl, rfl, rfl, trivial⟩) rfl rfl (by first | exact trivial | exact ⟨⟨rfl, rfl, rfl⟩, trivial⟩ | exact ⟨⟨rfl, rfl, rfl⟩, ⟨rfl, rfl, rfl⟩, trivial⟩ | exact ⟨⟨rfl, rfl, rfl⟩, ⟨rfl, rfl, rfl⟩, ⟨rfl, rfl, rfl⟩, trivial⟩) rfl rfl rfl (.inl rfl) rfl) ?_); conv => whnf)
   exact y7 rfl rfl
theorem lawPutNumber {n : Int} {p : Prop} (_ : p) : AC Try.prog 3 [.v (.int .i64 n)] ⟨.v (.bool true), []⟩ := aC7 aHN
theorem lawSumOf {t : ByteArray} (ht : t.size ≤ maxLen) : AC Try.prog 6 [.v (.string t)] ⟨.v (.bool true), []⟩ := aFm ht (aFW ht)
theorem lawEncodeCommit {c : Cmt} (hc1 : uP maxLen [c]) : AC Try.prog 4 [x9 c] ⟨.v (.bool true), []⟩ := by
 obtain ⟨p1, p2, p3⟩ := hc1 c (by simp)
 exact aAj hc1 (aGZ p1 p2 p3)
theorem lawEncodeBase {b : Bas} (hs : b.store.length ≤ maxLen ∧ uP maxLen b.store) (hr : b.refs.length ≤ maxLen) (hk : ∀ r ∈ b.refs, r.name.size ≤ maxLen) : AC Try.prog 5 [uE b] ⟨.v (.bool true), []⟩ := aBe hs hr hk (aGY ⟨hs.1, hs.2, hr, hk⟩)
end Go.Proofs.Ytoaifonjemlfcaa.AM
