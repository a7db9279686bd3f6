/- Texts of the machine over data, folded. -/
import Derived.Test.YtodckioppgjbdaaDoorKa5
import Derived.Test.YtodckioppgjbdaaDoorKa7
import Derived.Test.YtodckioppgjbdaaDoorKa8
import Derived.Test.YtodckioppgjbdaaDoorKa6
import Derived.Shelf.Strings.OnBuilder
import Derived.Shelf.LaysM
import Derived.Shelf.Strconv.Itoa3
import Derived.Shelf.Strings.Search3
import Derived.Test.YtodckioppgjbdaaDoorProg
import Derived.Lib.AppendIntMem
import Derived.Conc.LoneCalls
import Derived.Conc.LoneSelect
set_option linter.unusedVariables false
set_option linter.unusedSimpArgs false
set_option maxRecDepth 100000
namespace Go.Proofs.YtodckioppgjbdaaDoor.AM
open Go Go.RowKit
instance : DecidableEq Rf := fun a b => decidable_of_iff _ aJB.symm
def aAN (n : Nat) (l : List Rf) : Bool := l.all fun r => decide (r.head ≤ n)
noncomputable def kW (b : Bas) : Bool := aA9 b.store && (vS b.refs && aAN b.store.length b.refs)
theorem aDA {n : Nat} {l : List Rf} {k : Nat} (h : k < l.length) : aAN n (l.drop k) = (decide (l[k].head ≤ n) && aAN n (l.drop (k + 1))) := by
 unfold aAN; rw [List.drop_eq_getElem_cons h, List.all_cons]
structure Bas.ok (b : Bas) (N : Nat) : Prop where
 sm : b.store.length ≤ N
 sc : wC N b.store
 rm : b.refs.length ≤ N
 rk : aKv N b.refs
def szB (b : Bas) (l : Int) : Int := if zW b.store l < 0 then -1 else if szL rSz b.refs (zW b.store l) < 0 then -1 else szL rSz b.refs (zW b.store l)
attribute [local irreducible] xI xJ xL yF yH Pre ACG
theorem aCn {b : Bas} {l : Int} (hb : b.ok maxLen) (h0 : 0 ≤ l) (h1 : l ≤ 1048576) : AC Tryd.prog 33 [zL b, .v (.int .i64 l)] ⟨.v (.int .i64 (szB b l)), []⟩ := by
 have z1 := aDt hb.sm hb.sc h0 h1
 unfold szB
 by_cases ha : zW b.store l < 0
 · rw [if_pos ha]
   refine qrf Tryd.func33 Tryd.ntmps33 Tryd.results33 ?_; conv => whnf
   repeat ((first | refine qz ?_ | refine qc (z1) ?_ | refine qst ?_); conv => whnf)
   exact xA rfl trivial
 rw [if_neg ha]
 obtain ⟨z0, _, _⟩ := aCs (by omega : 0 ≤ zW b.store l) h1
 have z2 := aGk (l := zW b.store l) hb.rm hb.rk (by omega) (by omega)
 by_cases hn : szL rSz b.refs (zW b.store l) < 0
 · rw [if_pos hn]
   refine qrf Tryd.func33 Tryd.ntmps33 Tryd.results33 ?_; conv => whnf
   repeat ((first | refine qz ?_ | refine qc (z1) ?_ | refine qc (z2) ?_ | refine qst ?_); conv => whnf)
   exact xA rfl trivial
 · rw [if_neg hn]
   refine qrf Tryd.func33 Tryd.ntmps33 Tryd.results33 ?_; conv => whnf
   repeat ((first | refine qz ?_ | refine qc (z1) ?_ | refine qc (z2) ?_ | refine qst ?_); conv => whnf)
   exact xA rfl trivial
theorem aKR {b : Bas} {l : Int} (h : 0 ≤ szB b l) (h1 : l ≤ 1048576) : szB b l ≤ 1048576 ∧ b.store.length ≤ 1048576 ∧ wC 1048576 b.store ∧ b.refs.length ≤ 1048576 := by
 unfold szB at h ⊢
 by_cases ha : zW b.store l < 0
 · rw [if_pos ha] at h; omega
 rw [if_neg ha] at h ⊢
 obtain ⟨z0, z1, z2⟩ := aCs (by omega : 0 ≤ zW b.store l) h1
 by_cases hn : szL rSz b.refs (zW b.store l) < 0
 · rw [if_pos hn] at h; omega
 rw [if_neg hn] at h ⊢
 obtain ⟨k1, k2, _⟩ := aHb h
 exact ⟨by omega, z1, z2, by omega⟩
theorem aGl {b : Bas} (hm : b.store.length ≤ 1048576) (hc : wC 1048576 b.store) (hr : b.refs.length ≤ 1048576) : AC Tryd.prog 35 [zL b] ⟨zL b, []⟩ := by
 have h1 := aDw hm (fun c h => ⟨(hc c h).1, (hc c h).2.1⟩)
 have h2 := aCp hr
 refine qrf Tryd.func35 Tryd.ntmps35 Tryd.results35 ?_; conv => whnf
 repeat (first | (refine qz ?_; conv => whnf) | (refine qf (h1) ?_; conv => whnf) | (refine qf (h2) ?_; conv => whnf) | (refine qr (aDM rfl rfl rfl rfl rfl rfl rfl rfl) ?_; conv => whnf) | (refine qr (yh rfl rfl rfl rfl rfl (by conv => lhs; whnf) rfl) ?_; conv => whnf))
 exact aCc (x := zL b) rfl rfl rfl rfl trivial
theorem aGg {b : Bas} (hb : b.ok maxLen) : AC Tryd.prog 38 [zL b, zL b] ⟨.v (.bool true), []⟩ := by
 have h1 := aDm hb.sm (fun c h => ⟨(hb.sc c h).1, (hb.sc c h).2.1⟩)
 have h2 := aGi hb.rm
 refine qrf Tryd.func38 Tryd.ntmps38 Tryd.results38 ?_; conv => whnf
 repeat ((first | refine qz ?_ | refine qc (h1) ?_ | refine qc (h2) ?_ | refine qst ?_); conv => whnf)
 exact xA rfl trivial
set_option maxHeartbeats 1000000 in
theorem aFx {b : Bas} (hb : b.ok maxLen) : AC Tryd.prog 81 [zL b] ⟨.v (.bool (kW b)), []⟩ := by
 have h1 := aEz hb.sm hb.sc
 have h2 := aFy hb.rm hb.rk
 have hm := hb.rm
 have hm2 := hb.sm
 unfold maxLen at hm hm2
 unfold kW
 generalize aA9 b.store = x at h1
 generalize vS b.refs = y at h2
 cases x
 case false =>
  refine qrf Tryd.func81 Tryd.ntmps81 Tryd.results81 ?_; conv => whnf
  repeat ((first | refine qz ?_ | refine qc (h1) ?_ | refine qc (h2) ?_); conv => whnf)
  exact xA rfl trivial
 cases y
 case false =>
  refine qrf Tryd.func81 Tryd.ntmps81 Tryd.results81 ?_; conv => whnf
  repeat ((first | refine qz ?_ | refine qc (h1) ?_ | refine qc (h2) ?_); conv => whnf)
  exact xA rfl trivial
 rw [Bool.true_and, Bool.true_and]
 refine qrf Tryd.func81 Tryd.ntmps81 Tryd.results81 ?_; conv => whnf
 repeat ((first | refine qz ?_ | refine qc (h1) ?_ | refine qc (h2) ?_); conv => whnf)
 refine xX (ι := { k : Nat // k ≤ b.refs.length ∧ aAN b.store.length (b.refs.drop k) = aAN b.store.length b.refs }) (fun k => ⟨[(1, .optr 2 0 [] 0), (16, .lst 4 (b.refs.map xV)), (17, .v (.int .i64 (b.refs.length : Int))), (18, .v (.int .i64 (k.1 : Int)))], [(2, ⟨64, 2, [zL b]⟩)]⟩) (fun k => b.refs.length - k.1) ⟨0, Nat.zero_le _, rfl⟩ (by exact qle) ?_
 rintro ⟨k, hk, hd⟩
 dsimp only at hk hd ⊢
 conv => whnf
 by_cases hlt : k < b.refs.length
 · rw [aDA hlt] at hd
   by_cases he : b.refs[k].head ≤ b.store.length
   · rw [decide_eq_true he, Bool.true_and] at hd
     repeat ((first | refine qz ?_ | refine qst ?_); conv => whnf)
     exact ⟨⟨k + 1, hlt, hd⟩, by exact qle, by simp; omega⟩
   · rw [decide_eq_false he, Bool.false_and] at hd
     rw [← hd]
     repeat ((first | refine qz ?_ | refine qst ?_); conv => whnf)
     exact xA rfl trivial
 · rw [← hd, List.drop_eq_nil_of_le (by omega)]
   repeat ((refine qz ?_; conv => whnf))
   exact xA rfl trivial
set_option maxHeartbeats 1000000 in
theorem aHk {b : Bas} (hb : b.ok maxLen) : AC Tryd.prog 77 [zL b] ⟨.v (.bool (kW b)), []⟩ := by
 have h1 := aHh hb.sm hb.sc
 have h2 := aHj hb.rm hb.rk
 have hm := hb.rm
 have hm2 := hb.sm
 unfold maxLen at hm hm2
 unfold kW
 generalize aA9 b.store = x at h1
 generalize vS b.refs = y at h2
 cases x
 case false =>
  refine qrf Tryd.func77 Tryd.ntmps77 Tryd.results77 ?_; conv => whnf
  repeat ((first | refine qz ?_ | refine qc (h1) ?_ | refine qc (h2) ?_); conv => whnf)
  exact xA rfl trivial
 cases y
 case false =>
  refine qrf Tryd.func77 Tryd.ntmps77 Tryd.results77 ?_; conv => whnf
  repeat ((first | refine qz ?_ | refine qc (h1) ?_ | refine qc (h2) ?_); conv => whnf)
  exact xA rfl trivial
 rw [Bool.true_and, Bool.true_and]
 refine qrf Tryd.func77 Tryd.ntmps77 Tryd.results77 ?_; conv => whnf
 repeat ((first | refine qz ?_ | refine qc (h1) ?_ | refine qc (h2) ?_); conv => whnf)
 refine xX (ι := { k : Nat // k ≤ b.refs.length ∧ aAN b.store.length (b.refs.drop k) = aAN b.store.length b.refs }) (fun k => ⟨[(1, .optr 2 0 [] 0), (3, .v (.int .i64 (k.1 : Int)))], [(2, ⟨64, 2, [zL b]⟩)]⟩) (fun k => b.refs.length - k.1) ⟨0, Nat.zero_le _, rfl⟩ (by exact qle) ?_
 rintro ⟨k, hk, hd⟩
 dsimp only at hk hd ⊢
 conv => whnf
 by_cases hlt : k < b.refs.length
 · rw [aDA hlt] at hd
   by_cases he : b.refs[k].head ≤ b.store.length
   · rw [decide_eq_true he, Bool.true_and] at hd
     repeat ((refine qz ?_; conv => whnf))
     refine .inl ⟨by kernel_rfl, ?_⟩
     conv => whnf
     repeat ((first | refine qz ?_ | refine qst ?_); conv => whnf)
     exact ⟨⟨k + 1, hlt, hd⟩, by exact qle, by simp; omega⟩
   · rw [decide_eq_false he, Bool.false_and] at hd
     rw [← hd]
     repeat ((refine qz ?_; conv => whnf))
     refine .inl ⟨by kernel_rfl, ?_⟩
     conv => whnf
     repeat ((first | refine qz ?_ | refine qst ?_); conv => whnf)
     exact xA rfl trivial
 · rw [← hd, List.drop_eq_nil_of_le (by omega)]
   repeat ((refine qz ?_; conv => whnf))
   exact xA rfl trivial
theorem aId {a b : Bas} : a = b ↔ a.store = b.store ∧ a.refs = b.refs := by cases a; cases b; simp
instance : DecidableEq Bas := fun a b => decidable_of_iff _ aId.symm
end Go.Proofs.YtodckioppgjbdaaDoor.AM
namespace Go.Proofs.YtodckioppgjbdaaDoor.AM
open Go Go.RowKit
theorem aGs {α β : Type} {f : β → α → β} {a : β} {l : List α} {i : Nat} (h : i < l.length) : (l.take (i + 1)).foldl f a = f ((l.take i).foldl f a) l[i] := by
 rw [List.take_succ_eq_append_getElem h, List.foldl_append]; rfl
def aAI (l : List Ent) : Prop := ∀ e ∈ l, e.1.size ≤ 12 ∧ -1000000 ≤ e.2 ∧ e.2 ≤ 1000000
structure CmtS (c : Cmt) : Prop where
 pl : c.1.length ≤ 60
 pp : ∀ p ∈ c.1, 0 ≤ p ∧ p ≤ 1000
 ml : c.2.length ≤ 100
 me : aAI c.2
attribute [local irreducible] xI xJ xL yF yH Pre ACG
theorem aHD {m : List Ent} (h : yU m = true) : m.length ≤ 12 := by
 unfold yU at h
 simp only [Bool.and_eq_true, decide_eq_true_eq] at h
 exact h.1
theorem aHJ {x : ByteArray} (h : okN x = true) : x.size ≤ 12 := by
 unfold okN Nm.nameOK at h
 have e : x.size = x.data.toList.length := by rw [Array.length_toList]; rfl
 rw [e]
 split at h
 · simp at h
 · rename_i c cs hc
   rw [hc]
   simp only [Bool.and_eq_true, decide_eq_true_eq] at h
   simp only [List.length_cons]
   omega
theorem aGU {m : List Ent} (h : yU m = true) : aAI m := by
 intro e he
 obtain ⟨i, hi, rfl⟩ := List.getElem_of_mem he
 unfold yU at h
 simp only [Bool.and_eq_true] at h
 have h1 := aF8 h.2.1 hi
 have h2 := aJM h.2.2 hi
 unfold zC at h1
 rw [Bool.and_eq_true, aAQ _ _ hi] at h1
 unfold zR aGe at h2
 simp only [hi, List.getD_eq_getElem?_getD, List.getElem?_eq_getElem, Option.getD_some, Bool.and_eq_true, decide_eq_true_eq] at h2
 exact ⟨aHJ h1.1, h2.1, h2.2⟩
end Go.Proofs.YtodckioppgjbdaaDoor.AM
namespace Go.Proofs.YtodckioppgjbdaaDoor
open Go.RowKit
end Go.Proofs.YtodckioppgjbdaaDoor
namespace Go.Proofs.YtodckioppgjbdaaDoor.AM
open Go Go.RowKit
attribute [local irreducible] xI xJ xL yF yH Pre ACG
end Go.Proofs.YtodckioppgjbdaaDoor.AM
namespace Go.Proofs.YtodckioppgjbdaaDoor.AM
open Go Go.RowKit
attribute [local irreducible] xI xJ xL yF yH Pre ACG
end Go.Proofs.YtodckioppgjbdaaDoor.AM
namespace Go.Proofs.YtodckioppgjbdaaDoor.AM
open Go Go.RowKit
attribute [local irreducible] xI xJ xL yF yH Pre ACG
end Go.Proofs.YtodckioppgjbdaaDoor.AM
namespace Go.Proofs.YtodckioppgjbdaaDoor.AM
open Go Go.RowKit
theorem qM (b : UInt8) : (⟨#[b]⟩ : ByteArray).size = 1 := rfl
def jn (sep : ByteArray) (g : Nat → ByteArray) : Nat → ByteArray
 | 0 => ⟨#[]⟩
 | i + 1 => (if i = 0 then ⟨#[]⟩ else jn sep g i ++ sep) ++ g i
theorem aHw {sep : ByteArray} {g : Nat → ByteArray} : jn sep g 0 = ⟨#[]⟩ := rfl
theorem aHx {sep : ByteArray} {g : Nat → ByteArray} : jn sep g (0 + 1) = jn sep g 0 ++ g 0 := rfl
theorem aHy {sep : ByteArray} {g : Nat → ByteArray} {i : Nat} (h : 0 < i) : jn sep g (i + 1) = (jn sep g i ++ sep) ++ g i := by rw [jn, if_neg (by omega)]
theorem aBs {sep : ByteArray} {g : Nat → ByteArray} {A B : Nat} (hs : sep.size ≤ A) : ∀ {n : Nat}, (∀ i, i < n → (g i).size ≤ B) → (jn sep g n).size ≤ n * (A + B)
 | 0, _ => by rw [aHw]; show 0 ≤ _; exact Nat.zero_le _
 | i + 1, h => by
  have h1 := aBs (sep := sep) (g := g) hs (n := i) (fun k hk => h k (by omega))
  have h2 := h i (by omega)
  rw [Nat.succ_mul]
  by_cases hi : i = 0
  · subst hi
    rw [aHx, ByteArray.size_append, aHw]
    have : (⟨#[]⟩ : ByteArray).size = 0 := rfl
    omega
  · rw [aHy (by omega), ByteArray.size_append, ByteArray.size_append]
    omega
def zEn : Ent := (⟨#[]⟩, 0)
def zM (e : Ent) : ByteArray := (e.1 ++ ⟨#[61]⟩) ++ yO e.2
def vN (m : List Ent) : ByteArray := if m.length = 0 then ⟨#[45]⟩ else jn ⟨#[44]⟩ (fun i => zM ((m[i]?).getD zEn)) m.length
theorem aC2 {e : Ent} (h : e.1.size ≤ 12) (h1 : -1000000 ≤ e.2) (h2 : e.2 ≤ 1000000) : (zM e).size ≤ 27 := by
 unfold zM
 rw [ByteArray.size_append, ByteArray.size_append, qM]
 have := zq (n := e.2) (by omega) (by omega)
 omega
theorem aF2 {m : List Ent} (h : aAI m) : (vN m).size ≤ 1 + m.length * 28 := by
 unfold vN
 split
 · rw [qM]; omega
 · have := aBs (sep := ⟨#[44]⟩) (g := fun i => zM ((m[i]?).getD zEn)) (A := 1) (B := 27) (n := m.length) (Nat.le_of_eq (qM _)) (fun i hi => by
    obtain ⟨k1, k2, k3⟩ := h _ (List.getElem_mem hi)
    simp only [List.getElem?_eq_getElem hi, Option.getD_some]
    exact aC2 k1 k2 k3)
   omega
attribute [local irreducible] xI xJ xL yF yH Pre ACG
set_option maxHeartbeats 4000000 in
theorem aGj {m : List Ent} (hm : m.length ≤ 12) (hk : aAI m) : AC Tryd.prog 49 [.lst 2 (m.map yT)] ⟨.v (.string (vN m)), []⟩ := by
 have e1 : ∀ b : UInt8, (⟨#[b]⟩ : ByteArray).size = 1 := qM
 have c44 := e1 44
 have c61 := e1 61
 unfold vN
 by_cases h0 : m.length = 0
 · rw [if_pos h0]
   refine qrf Tryd.func49 Tryd.ntmps49 Tryd.results49 ?_; conv => whnf
   repeat ((refine qz ?_; conv => whnf))
   exact xA rfl trivial
 rw [if_neg h0]
 refine qrf Tryd.func49 Tryd.ntmps49 Tryd.results49 ?_; conv => whnf
 repeat ((refine qz ?_; conv => whnf))
 refine xX (ι := { i : Nat // i ≤ m.length }) (fun i => ⟨[(0, .lst 2 (m.map yT)), (3, .v (.string (jn ⟨#[44]⟩ (fun i => zM ((m[i]?).getD zEn)) i.1))), (4, .v (.int .i64 (i.1 : Int)))], []⟩) (fun i => m.length - i.1) ⟨0, Nat.zero_le _⟩ (by exact qle) ?_
 rintro ⟨i, hi⟩
 dsimp only
 conv => whnf
 by_cases hlt : i < m.length
 case neg =>
  have e : i = m.length := by omega
  subst e
  repeat ((refine qz ?_; conv => whnf))
  exact xA rfl trivial
 obtain ⟨k1, k2, k3⟩ := hk _ (List.getElem_mem hlt)
 have z1 := zq (n := (m[i]).2) (by omega) (by omega)
 have c1 := aAB (n := (m[i]).2) (by omega) (by omega)
 have z2 := aBs (sep := ⟨#[44]⟩) (g := fun i => zM ((m[i]?).getD zEn)) (A := 1) (B := 27) (n := i) (Nat.le_of_eq (qM _)) (fun j hj => by
  obtain ⟨k1, k2, k3⟩ := hk _ (List.getElem_mem (by omega : j < m.length))
  simp only [List.getElem?_eq_getElem (by omega : j < m.length), Option.getD_some]
  exact aC2 k1 k2 k3)
 have hi12 : i * (1 + 27) ≤ 400 := by omega
 by_cases hz : i = 0
 · subst hz
   have hs : jn ⟨#[44]⟩ (fun i => zM ((m[i]?).getD zEn)) (0 + 1) = jn ⟨#[44]⟩ (fun i => zM ((m[i]?).getD zEn)) 0 ++ ((m[0]).1 ++ ⟨#[61]⟩ ++ yO (m[0]).2) := by
    rw [aHx]; simp only [List.getElem?_eq_getElem hlt, Option.getD_some]; rfl
   generalize jn ⟨#[44]⟩ (fun i => zM ((m[i]?).getD zEn)) 0 = A at hs z2 ⊢
   repeat (first | (refine qz ?_; conv => whnf) | (refine qdr ?_; conv => whnf) | (refine qc (c1) ?_; conv => whnf) | (refine qp (xk (wB (by first | omega | (simp only [ByteArray.size_append]; omega))) rfl rfl rfl) ?_; conv => whnf))
   rw [← hs]
   exact ⟨⟨0 + 1, hlt⟩, by exact qle, by simp; omega⟩
 · have hs : jn ⟨#[44]⟩ (fun i => zM ((m[i]?).getD zEn)) (i + 1) = (jn ⟨#[44]⟩ (fun i => zM ((m[i]?).getD zEn)) i ++ ⟨#[44]⟩) ++ ((m[i]).1 ++ ⟨#[61]⟩ ++ yO (m[i]).2) := by
    rw [aHy (by omega)]; simp only [List.getElem?_eq_getElem hlt, Option.getD_some]; rfl
   generalize jn ⟨#[44]⟩ (fun i => zM ((m[i]?).getD zEn)) i = A at hs z2 ⊢
   repeat (first | (refine qz ?_; conv => whnf) | (refine qdr ?_; conv => whnf) | (refine qc (c1) ?_; conv => whnf) | (refine qp (xk (wB (by first | omega | (simp only [ByteArray.size_append]; omega))) rfl rfl rfl) ?_; conv => whnf))
   rw [← hs]
   exact ⟨⟨i + 1, hlt⟩, by exact qle, by simp; omega⟩
end Go.Proofs.YtodckioppgjbdaaDoor.AM
namespace Go.Proofs
open Go.Shelf
def Tryd.lays156_ren : Go.Shelf.Ren := ⟨fun | 156 => 122 | 165 => 150 | 166 => 151 | 169 => 152 | 240 => 171 | 241 => 172 | 276 => 190 | 277 => 191 | n => n, fun | 31 => 44 | 9 => 9 | 3 => 3 | 4 => 4 | 0 => 0 | 20 => 20 | 72 => 191 | 76 => 185 | 70 => 189 | 37 => 157 | 75 => 184 | 127 => 203 | 164 => 222 | 5 => 5 | 80 => 181 | n => n, fun | n => n⟩
theorem Tryd.lays156 : Go.Proofs.Lays.n156 Tryd.prog Tryd.lays156_ren := {
 mixed := by kernel_rfl
 f156 := Tryd.func122.trans (congrArg some (by kernel_rfl))
 f165 := Tryd.func150.trans (congrArg some (by kernel_rfl))
 f166 := Tryd.func151.trans (congrArg some (by kernel_rfl))
 f169 := Tryd.func152.trans (congrArg some (by kernel_rfl))
 f240 := Tryd.func171.trans (congrArg some (by kernel_rfl))
 f241 := Tryd.func172.trans (congrArg some (by kernel_rfl))
 f276 := Tryd.func190.trans (congrArg some (by kernel_rfl))
 f277 := Tryd.func191.trans (congrArg some (by kernel_rfl))
 t0 := Tryd.underlying0
 a0 := Tryd.isAgg0
 z0 := Tryd.sizeOf0
 v0 := Tryd.zeroValue0
 t3 := Tryd.underlying3
 a3 := Tryd.isAgg3
 z3 := Tryd.sizeOf3
 v3 := Tryd.zeroValue3
 t4 := Tryd.underlying4
 a4 := Tryd.isAgg4
 z4 := Tryd.sizeOf4
 v4 := Tryd.zeroValue4
 t9 := Tryd.underlying9
 a9 := Tryd.isAgg9
 z9 := Tryd.sizeOf9
 v9 := Tryd.zeroValue9
 t20 := Tryd.underlying20
 a20 := Tryd.isAgg20
 z20 := Tryd.sizeOf20
 v20 := Tryd.zeroValue20
 t31 := Tryd.underlying44
 a31 := Tryd.isAgg44
 z31 := Tryd.sizeOf44
 v31 := Tryd.zeroValue44
 t37 := Tryd.underlying157
 a37 := Tryd.isAgg157
 z37 := Tryd.sizeOf157
 v37 := Tryd.zeroValue157
 t70 := Tryd.underlying189
 a70 := Tryd.isAgg189
 z70 := Tryd.sizeOf189
 v70 := Tryd.zeroValue189
 t72 := Tryd.underlying191
 a72 := Tryd.isAgg191
 z72 := Tryd.sizeOf191
 v72 := Tryd.zeroValue191
 t75 := Tryd.underlying184
 a75 := Tryd.isAgg184
 z75 := Tryd.sizeOf184
 v75 := Tryd.zeroValue184
 t76 := Tryd.underlying185
 a76 := Tryd.isAgg185
 z76 := Tryd.sizeOf185
 v76 := Tryd.zeroValue185
 t127 := Tryd.underlying203
 a127 := Tryd.isAgg203
 z127 := Tryd.sizeOf203
 v127 := Tryd.zeroValue203
 t164 := Tryd.underlying222
 a164 := Tryd.isAgg222
 z164 := Tryd.sizeOf222
 v164 := Tryd.zeroValue222 }
theorem Tryd.Builder_Extra_156 : Builder.Extra Tryd.prog Tryd.lays156_ren := {
 sizeBuilder := by kernel_rfl
 liesBuilder := by kernel_rfl
 t5 := Tryd.underlying5
 a5 := Tryd.isAgg5
 z5 := Tryd.sizeOf5
 v5 := Tryd.zeroValue5
 infoByte := by kernel_rfl
 cellsByte := by kernel_rfl
 sizeByte := by kernel_rfl
 neB5 := by decide }
open Go.RowKit in
theorem Tryd.strings_Join_none (a : Option Addr) (c : Nat) (sep : ByteArray) (w : World) :
 Calls Tryd.prog 122 #[.slice a 0 c, .string sep] w fun e w' => e = .returned (.string ⟨#[]⟩) ∧ w' = w := Any.strings_Join_none Tryd.lays156 Tryd.Builder_Extra_156 a c sep w
open Go.RowKit in
theorem Tryd.strings_Join (bk o c : Nat) (xs : List ByteArray) (sep : ByteArray) (w : World) (hcells : ∀ (j : Nat) x, xs[j]? = some x → w.cell? ⟨bk, o + j, none⟩ = some (.string x)) (hbk : bk < w.heap.size) (hN : xs.length ≤ 140737488355328) (hcap : xs.length ≤ c) (hlen : (Lib.join (xs.map (·.data.toList)) sep.data.toList).length ≤ 140737488355328) :
 Calls Tryd.prog 122 #[.slice (some ⟨bk, o, none⟩) xs.length c, .string sep] w fun e w' => e = .returned (.string ⟨(Lib.join (xs.map (·.data.toList)) sep.data.toList).toArray⟩) ∧ Below w.heap.size w w' := Any.strings_Join Tryd.lays156 Tryd.Builder_Extra_156 bk o c xs sep w hcells hbk hN hcap hlen
def Tryd.laysM171_ren : Go.Shelf.Ren := ⟨fun | 171 => 95 | 243 => 137 | 246 => 162 | 283 => 176 | 284 => 177 | 285 => 178 | 286 => 179 | 129 => 194 | 317 => 193 | 318 => 195 | 319 => 196 | 320 => 197 | 337 => 203 | 338 => 204 | n => n, fun | 3 => 3 | 9 => 9 | 2 => 2 | 4 => 4 | 171 => 207 | 0 => 0 | 53 => 208 | 37 => 157 | 5 => 5 | 173 => 211 | 212 => 227 | 51 => 228 | 20 => 20 | 213 => 229 | 46 => 215 | 232 => 247 | 233 => 248 | n => n, fun | 17 => 3 | 18 => 8 | 19 => 9 | n => n⟩
theorem Tryd.laysM171 : Go.Proofs.LaysM.n171 Tryd.prog Tryd.laysM171_ren := {
 mixed := by kernel_rfl
 f129 := Tryd.func194.trans (congrArg some (by kernel_rfl))
 f171 := Tryd.func95.trans (congrArg some (by kernel_rfl))
 f243 := Tryd.func137.trans (congrArg some (by kernel_rfl))
 f246 := Tryd.func162.trans (congrArg some (by kernel_rfl))
 f283 := Tryd.func176.trans (congrArg some (by kernel_rfl))
 f284 := Tryd.func177.trans (congrArg some (by kernel_rfl))
 f285 := Tryd.func178.trans (congrArg some (by kernel_rfl))
 f286 := Tryd.func179.trans (congrArg some (by kernel_rfl))
 f317 := Tryd.func193.trans (congrArg some (by kernel_rfl))
 f318 := Tryd.func195.trans (congrArg some (by kernel_rfl))
 f319 := Tryd.func196.trans (congrArg some (by kernel_rfl))
 f320 := Tryd.func197.trans (congrArg some (by kernel_rfl))
 f337 := Tryd.func203.trans (congrArg some (by kernel_rfl))
 f338 := Tryd.func204.trans (congrArg some (by kernel_rfl))
 t0 := Tryd.underlying0
 a0 := Tryd.isAgg0
 z0 := Tryd.sizeOf0
 v0 := Tryd.zeroValue0
 t2 := Tryd.underlying2
 a2 := Tryd.isAgg2
 z2 := Tryd.sizeOf2
 v2 := Tryd.zeroValue2
 t3 := Tryd.underlying3
 a3 := Tryd.isAgg3
 z3 := Tryd.sizeOf3
 v3 := Tryd.zeroValue3
 t4 := Tryd.underlying4
 a4 := Tryd.isAgg4
 z4 := Tryd.sizeOf4
 v4 := Tryd.zeroValue4
 t5 := Tryd.underlying5
 a5 := Tryd.isAgg5
 z5 := Tryd.sizeOf5
 v5 := Tryd.zeroValue5
 t9 := Tryd.underlying9
 a9 := Tryd.isAgg9
 z9 := Tryd.sizeOf9
 v9 := Tryd.zeroValue9
 t20 := Tryd.underlying20
 a20 := Tryd.isAgg20
 z20 := Tryd.sizeOf20
 v20 := Tryd.zeroValue20
 t37 := Tryd.underlying157
 a37 := Tryd.isAgg157
 z37 := Tryd.sizeOf157
 v37 := Tryd.zeroValue157
 t46 := Tryd.underlying215
 a46 := Tryd.isAgg215
 z46 := Tryd.sizeOf215
 v46 := Tryd.zeroValue215
 t51 := Tryd.underlying228
 a51 := Tryd.isAgg228
 z51 := Tryd.sizeOf228
 v51 := Tryd.zeroValue228
 t53 := Tryd.underlying208
 a53 := Tryd.isAgg208
 z53 := Tryd.sizeOf208
 v53 := Tryd.zeroValue208
 t171 := Tryd.underlying207
 a171 := Tryd.isAgg207
 z171 := Tryd.sizeOf207
 v171 := Tryd.zeroValue207
 t173 := Tryd.underlying211
 a173 := Tryd.isAgg211
 z173 := Tryd.sizeOf211
 v173 := Tryd.zeroValue211
 t212 := Tryd.underlying227
 a212 := Tryd.isAgg227
 z212 := Tryd.sizeOf227
 v212 := Tryd.zeroValue227
 t213 := Tryd.underlying229
 a213 := Tryd.isAgg229
 z213 := Tryd.sizeOf229
 t232 := Tryd.underlying247
 a232 := Tryd.isAgg247
 z232 := Tryd.sizeOf247
 v232 := Tryd.zeroValue247
 t233 := Tryd.underlying248
 a233 := Tryd.isAgg248
 z233 := Tryd.sizeOf248
 v233 := Tryd.zeroValue248
 g17 := by kernel_rfl
 g18 := by kernel_rfl
 g19 := by kernel_rfl
 i0 := by kernel_rfl
 i2 := by kernel_rfl
 i3 := by kernel_rfl
 i4 := by kernel_rfl
 i5 := by kernel_rfl
 i9 := by kernel_rfl
 i20 := by kernel_rfl
 i37 := by kernel_rfl
 i46 := by kernel_rfl
 i51 := by kernel_rfl
 i53 := by kernel_rfl
 i171 := by kernel_rfl
 i173 := by kernel_rfl
 i212 := by kernel_rfl
 i232 := by kernel_rfl
 i233 := by kernel_rfl
 m17 := by kernel_rfl
 m18 := by kernel_rfl
 m19 := by kernel_rfl }
open Go.RowKit Go.Sort Go.Lib in
theorem Tryd.strconv_Itoa (n : Int) (h0 : -9223372036854775808 ≤ n) (h1 : n ≤ 9223372036854775807) (w : World) (htab : Lib.TabIs Tryd.prog w "internal/strconv.uint64pow10" .u64 Lib.pow10Tab) :
 Calls Tryd.prog 95 #[.int .i64 n] w fun e w' => e = .returned (.string ⟨(Lib.itoa n).toArray⟩) ∧ ∃ k os, w' = grow (w.drewN k) os := Any.strconv_Itoa Tryd.laysM171 n h0 h1 w htab
end Go.Proofs
namespace Go.Proofs.YtodckioppgjbdaaDoor.AM
open Go Go.RowKit
theorem aFS {P : Program} {f : FuncId} {args : List AV} {v : Value} (hent : ∀ vs w, (callFunc f vs).run P w = .ok (.enter f vs) w) (hv : v.oneCell' = true)
 (h : ∀ (w : World) (S0 : Nat → Prop) (us : List Value), (∀ b, S0 b → b < w.heap.size) → (∀ g y, GT g = some y → RG S0 w g y) → RVs S0 w (fun _ => none) (fun _ => 0) (fun _ => undef) args us → Calls P f us.toArray w fun e w' => e = .returned v ∧ Below w.heap.size w w') : AC P f args ⟨.v v, []⟩ := by
 refine ⟨hent, fun w S0 B0 V0 T0 vs hS hG _ hv' => (h w S0 vs hS hG (qm (fun _ => rfl) hv')).mono fun e w' ⟨he, hb⟩ => ?_⟩
 exact ⟨v, S0, fun _ => 0, fun _ => undef, fun _ => Fa, fun _ => Fa, he, Grown.of hb _, fun _ h => h, fun b hb' => ⟨Nat.lt_of_lt_of_le (hS b hb') hb.size, .inl hb'⟩, (by unfold RV; exact ⟨rfl, hv⟩), vz aAo, vz (fun _ => rfl), fun l l' ob ob' g e => by rw [aAo] at e; cases e⟩
theorem aDy {α : Type} (f : α → Value) : ∀ (l : List α), asz (.agg (l.map fun x => .v (f x))) = l.length
 | [] => rfl
 | x :: l => by
  have h2 : xB (l.map fun x => .v (f x)) = l.length := aDy f l
  rw [List.map_cons]
  show 1 + xB _ = _
  rw [h2, List.length_cons]; omega
theorem aKS {P : Program} {S0 : Nat → Prop} {w : World} {g : Nat} {name : String} {k : IntKind} {zs : List Int} (hg : P.globalNamed name = some g) (h : RG S0 w g (.agg (zs.map fun x => .v (.int k x)))) : Lib.TabIs P w name k zs := by
 have h1 := h.ra rfl
 obtain ⟨cs, t, p, hb, hn⟩ := h.full
 unfold Lib.TabIs World.var?
 rw [hg]
 simp only [Option.bind_some, hb, Option.some.injEq]
 unfold RA at h1
 obtain ⟨b, off, us, e, _, h2, h3⟩ := h1
 simp only [List.cons.injEq, Value.pointer.injEq, Option.some.injEq, Addr.mk.injEq, and_true] at e
 obtain ⟨rfl, rfl⟩ := e
 unfold RA at h2
 have hus : us = zs.map fun z => Value.int k z := by
  clear h3 hn h
  induction zs generalizing us with
  | nil => unfold List.map RL at h2; exact h2
  | cons z zs ih =>
   rw [List.map_cons] at h2
   unfold RL at h2
   obtain ⟨c1, c2, rfl, k1, k2⟩ := h2
   unfold RA at k1
   rw [k1.1, ih _ k2]; rfl
 subst hus
 have hsz : cs.size = zs.length := by
  have hn' : cs.size = asz (.agg (zs.map fun x => .v (.int k x))) := hn
  rw [hn', aDy]
 apply Array.ext
 · simp [hsz]
 · intro i hi hi2
   have hi3 : i < zs.length := by omega
   have := h3 i (.int k zs[i]) (by rw [List.getElem?_map, List.getElem?_eq_getElem hi3]; rfl)
   rw [Nat.zero_add, Lib.cell_of_heap hb] at this
   rw [Array.getElem?_eq_getElem hi, Option.some.injEq] at this
   rw [this]; simp
theorem aED : ∀ (n : Nat), Lib.decDigits n = kY n := fun n => by
 induction n using Nat.strongRecOn with
 | _ n ih =>
  rw [Lib.decDigits, kY]
  by_cases h : n < 10
  · rw [dif_pos h, dif_pos h]
  · rw [dif_neg h, dif_neg h, ih (n / 10) (by omega)]
theorem aJr {n : Int} : (⟨(Lib.itoa n).toArray⟩ : ByteArray) = yO n := by
 unfold Lib.itoa yO
 split
 · rw [aED]
   apply ByteArray.ext
   rw [ByteArray.data_append]
   unfold kX
   have : n.natAbs = (-n).toNat := by omega
   rw [this]; simp
 · rw [aED]; rfl
theorem aJm : ∀ vs w, (callFunc 95 vs).run Tryd.prog w = .ok (.enter 95 vs) w := wD Tryd.func95 (by kernel_rfl) (by kernel_rfl)
theorem jh {n : Int} (h0 : -1000000000000 ≤ n) (h1 : n ≤ 1000000000000) : AC Tryd.prog 95 [.v (.int .i64 n)] ⟨.v (.string (yO n)), []⟩ := by
 refine aFS aJm rfl fun w S0 us hS hG hv => ?_
 obtain ⟨u, rfl, h2⟩ := ql hv
 unfold RV at h2
 obtain ⟨rfl, _⟩ := h2
 have htab : Lib.TabIs Tryd.prog w "internal/strconv.uint64pow10" .u64 Lib.pow10Tab := by
  rw [show Lib.pow10Tab = p10L from by decide]
  exact aKS (g := 3) (by kernel_rfl) (hG _ _ rfl)
 refine (Tryd.strconv_Itoa n (by omega) (by omega) w htab).mono ?_
 rintro e w' ⟨rfl, k, os, rfl⟩
 rw [aJr]
 exact ⟨rfl, Lib.below_grow _ w (Nat.le_refl _) k os⟩
theorem aBr {sep : ByteArray} {g g' : Nat → ByteArray} : ∀ {n : Nat}, (∀ i, i < n → g i = g' i) → jn sep g n = jn sep g' n
 | 0, _ => rfl
 | i + 1, h => by
  rw [jn, jn, h i (by omega), aBr (n := i) (fun k hk => h k (by omega))]
theorem inter_snoc {sep : List UInt8} : ∀ {xs : List (List UInt8)} {x : List UInt8}, xs ≠ [] → sep.intercalate (xs ++ [x]) = (sep.intercalate xs ++ sep) ++ x
 | [], x, h => absurd rfl h
 | [y], x, _ => by simp [List.intercalate]
 | y :: z :: r, x, _ => by
  have := inter_snoc (sep := sep) (xs := z :: r) (x := x) (by simp)
  simp only [List.intercalate, List.cons_append, List.intersperse_cons_cons, List.flatten_cons, List.append_assoc] at this ⊢
  rw [this]
theorem aJt {sep : ByteArray} (xs : List ByteArray) : (⟨(Lib.join (xs.map (·.data.toList)) sep.data.toList).toArray⟩ : ByteArray) = jn sep (fun i => (xs[i]?).getD ⟨#[]⟩) xs.length := by
 unfold Lib.join
 induction h : xs.length generalizing xs with
 | zero =>
  obtain rfl := List.eq_nil_of_length_eq_zero h
  rfl
 | succ n ih =>
  obtain ⟨ys, y, rfl⟩ : ∃ ys y, xs = ys ++ [y] := ⟨xs.dropLast, xs.getLast (by intro e; subst e; simp at h), (List.dropLast_concat_getLast _).symm⟩
  have hn : ys.length = n := by simpa using h
  have h1 := ih ys hn
  have h2 : jn sep (fun i => ((ys ++ [y])[i]?).getD ⟨#[]⟩) n = jn sep (fun i => (ys[i]?).getD ⟨#[]⟩) n := aBr fun i hi => by rw [List.getElem?_append_left (by omega)]
  have h3 : ((ys ++ [y])[n]?).getD ⟨#[]⟩ = y := by rw [List.getElem?_append_right (by omega), hn]; simp
  rw [jn, h2, h3, ← h1]
  by_cases h0 : n = 0
  · subst h0
    obtain rfl := List.eq_nil_of_length_eq_zero hn
    rw [if_pos rfl]
    apply ByteArray.ext
    simp [List.intercalate]
  · rw [if_neg h0, List.map_append, List.map_cons, List.map_nil, inter_snoc (by intro e; rw [List.map_eq_nil_iff] at e; subst e; exact h0 hn.symm)]
    apply ByteArray.ext
    simp [ByteArray.data_append]
theorem aFl {S : Nat → Prop} {w : World} : ∀ {l : List ByteArray} {us : List Value}, RL S w (l.map yB) us → us = l.map Value.string
 | [], us, h => by unfold List.map RL at h; exact h
 | x :: l, us, h => by
  rw [List.map_cons] at h
  unfold RL at h
  obtain ⟨c1, c2, rfl, k1, k2⟩ := h
  unfold yB RA at k1
  rw [k1.1, aFl k2]; rfl
theorem aIi : ∀ vs w, (callFunc 122 vs).run Tryd.prog w = .ok (.enter 122 vs) w := wD Tryd.func122 (by kernel_rfl) (by kernel_rfl)
theorem aFR {sep : ByteArray} {xs : List ByteArray} (hx : xs.length ≤ 100000) (hs : (jn sep (fun i => (xs[i]?).getD ⟨#[]⟩) xs.length).size ≤ 100000000000) : AC Tryd.prog 122 [.lst 1 (xs.map yB), .v (.string sep)] ⟨.v (.string (jn sep (fun i => (xs[i]?).getD ⟨#[]⟩) xs.length)), []⟩ := by
 refine aFS aIi rfl fun w S0 us hS hG hv => ?_
 unfold RVs at hv
 obtain ⟨u, us, rfl, h1, hv⟩ := hv
 obtain ⟨u2, rfl, h2⟩ := ql hv
 unfold RV at h2
 obtain ⟨rfl, _⟩ := h2
 unfold RV RA at h1
 obtain ⟨A, c, e, hc, _, _, _, h4⟩ := h1
 simp only [List.cons.injEq, and_true] at e
 subst e
 rw [List.length_map] at hc ⊢
 rw [← aJt] at hs ⊢
 have hl : (Lib.join (xs.map (·.data.toList)) sep.data.toList).length ≤ 100000000000 := by
  have : (⟨(Lib.join (xs.map (·.data.toList)) sep.data.toList).toArray⟩ : ByteArray).size = (Lib.join (xs.map (·.data.toList)) sep.data.toList).length := by simp [ByteArray.size]
  omega
 by_cases hn : xs = []
 · subst hn
   refine (Tryd.strings_Join_none A c sep w).mono ?_
   rintro e w' ⟨rfl, rfl⟩
   exact ⟨rfl, Below.refl _ _⟩
 · rcases h4 with h4 | ⟨b, off, us, rfl, hb, hr, hcell⟩
   · exact absurd (List.map_eq_nil_iff.1 h4) hn
   · have hus := aFl hr
     subst hus
     refine (Tryd.strings_Join b off c xs sep w (fun j x hj => hcell j _ (by rw [List.getElem?_map, hj]; rfl)) (hS b hb) (by omega) hc (by omega)).mono ?_
     rintro e w' ⟨rfl, hbel⟩
     exact ⟨rfl, hbel⟩
abbrev eB : ByteArray := ⟨#[]⟩
attribute [local irreducible] xI xJ xL yF yH Pre ACG
theorem aFw {e : Ent} (h : e.1.size ≤ 12) (h1 : -1000000 ≤ e.2) (h2 : e.2 ≤ 1000000) : AC Tryd.prog 103 [yT e] ⟨.v (.string (zM e)), []⟩ := by
 have c1 := jh (n := e.2) (by omega) (by omega)
 have hs := zq (n := e.2) (by omega) (by omega)
 have e1 : (⟨#[61]⟩ : ByteArray).size = 1 := rfl
 unfold zM
 refine qrf Tryd.func103 Tryd.ntmps103 Tryd.results103 ?_; conv => whnf
 repeat (first | (refine qz ?_; conv => whnf) | (refine qc (c1) ?_; conv => whnf) | (refine qp (xk (wB (by first | omega | (simp only [ByteArray.size_append]; omega))) rfl rfl rfl) ?_; conv => whnf) | (refine qdr ?_; conv => whnf))
 exact xA rfl trivial
theorem aGv {α : Type} {sep : ByteArray} {f : α → ByteArray} {z : α} (l : List α) : jn sep (fun i => ((l.map f)[i]?).getD ⟨#[]⟩) (l.map f).length = jn sep (fun i => f ((l[i]?).getD z)) l.length := by
 rw [List.length_map]
 exact aBr fun i hi => by rw [List.getElem?_map, List.getElem?_eq_getElem hi]; rfl
theorem aCV {es : List Ent} (hm : es.length ≤ 4096) (hk : aAI es) : AC Tryd.prog 123 [.lst 2 (es.map yT), .fn 103 [] []] ⟨.v (.string (jn ⟨#[44]⟩ (fun i => zM ((es[i]?).getD zEn)) es.length)), []⟩ := by
 have hsz : (jn ⟨#[44]⟩ (fun i => zM ((es[i]?).getD zEn)) es.length).size ≤ es.length * (1 + 27) := aBs (by rw [qM]; omega) fun i hi => by
  rw [List.getElem?_eq_getElem hi]
  obtain ⟨p1, p2, p3⟩ := hk _ (List.getElem_mem hi)
  exact aC2 p1 p2 p3
 have hj := aFR (sep := ⟨#[44]⟩) (xs := es.map zM) (by rw [List.length_map]; omega) (by rw [aGv (z := zEn)]; omega)
 rw [aGv (z := zEn)] at hj
 obtain ⟨hsl⟩ : Nonempty ((es.map zM).length = es.length) := ⟨by rw [List.length_map]⟩
 generalize jn ⟨#[44]⟩ (fun i => zM ((es[i]?).getD zEn)) es.length = R at *
 have hgt : ∀ k (h : k < es.length), (es.map zM)[k]? = some (zM es[k]) := fun k h => by rw [List.getElem?_map, List.getElem?_eq_getElem h]; rfl
 generalize hE : es.map zM = E at *
 refine qrf Tryd.func123 Tryd.ntmps123 Tryd.results123 ?_; conv => whnf
 repeat (first | (refine qz ?_; conv => whnf) | (refine qr (aAZ (n := es.length) (by omega) (by omega) (by simp; rfl) (by simp; rfl) rfl rfl) ?_; conv => whnf))
 have hrow : List.replicate es.length (AV.v (.string ByteArray.empty)) = (E.take 0 ++ List.replicate (E.length - 0) ByteArray.empty).map yB := by simp [hsl, yB]
 refine xX (ι := { k : Nat // k ≤ es.length }) (fun k => ⟨[(0, .lst 2 (es.map yT)), (1, .fn 103 [] []), (5, .own 11), (11, .lst 2 (es.map yT)), (12, .v (.int .i64 (es.length : Int))), (13, .v (.int .i64 (k.1 : Int)))], [(11, ⟨9, 1, (E.take k.1 ++ List.replicate (E.length - k.1) ByteArray.empty).map yB⟩)]⟩) (fun k => es.length - k.1) ⟨0, Nat.zero_le _⟩ ⟨⟨congrArg (fun x => some (OB.mk _ _ x)) hrow, trivial⟩, .inl ⟨rfl, rfl⟩, .inl ⟨rfl, rfl⟩, .inl ⟨rfl, rfl⟩, .inl ⟨rfl, rfl⟩, .inl ⟨rfl, rfl⟩, .inl ⟨rfl, rfl⟩, trivial⟩ ?_
 rintro ⟨k, hk'⟩
 dsimp only
 conv => whnf
 by_cases hlt : k < es.length
 · have hlt' : k < E.length := by omega
   have hlt2 : k < (E.take k ++ List.replicate (E.length - k) ByteArray.empty).length := by simp; omega
   have hset := congrArg (List.map yB) (kZ E ByteArray.empty k hlt')
   have hgk : E[k] = zM es[k] := by have := hgt k hlt; rw [List.getElem?_eq_getElem hlt'] at this; exact Option.some.inj this
   rw [List.map_set, hgk] at hset
   obtain ⟨p1, p2, p3⟩ := hk _ (List.getElem_mem hlt)
   have hac := aFw p1 p2 p3
   repeat ((first | refine qz ?_ | refine qp (uT (by simpa using hlt2) rfl rfl rfl rfl rfl) ?_ | refine qr (yh (wO _ hlt2) rfl rfl rfl rfl rfl rfl) ?_ | refine qst ?_ | refine qdr ?_ | refine qr (aC9 hac rfl rfl (.inl rfl) trivial rfl rfl) ?_); conv => whnf)
   exact ⟨⟨k + 1, hlt⟩, ⟨⟨congrArg (fun x => some (OB.mk _ _ x)) hset, trivial⟩, .inl ⟨rfl, rfl⟩, .inl ⟨rfl, rfl⟩, .inl ⟨rfl, rfl⟩, .inl ⟨rfl, rfl⟩, .inl ⟨rfl, rfl⟩, .inl ⟨rfl, rfl⟩, trivial⟩, by simp; omega⟩
 · have hkk : k = es.length := by omega
   subst hkk
   have hfin : (E.take es.length ++ List.replicate (E.length - es.length) ByteArray.empty).map yB = E.map yB := by rw [← hsl, List.take_length, Nat.sub_self, List.replicate_zero, List.append_nil]
   rw [hfin]
   repeat ((first | refine qz ?_ | refine qc (hj) ?_); conv => whnf)
   exact xA rfl trivial
theorem aBQ {es : List Ent} (hm : es.length ≤ 4096) (hk : aAI es) : AC Tryd.prog 102 [.lst 2 (es.map yT), .fn 103 [] []] ⟨.v (.string (vN es)), []⟩ := by
 have hj := aCV hm hk
 unfold vN
 by_cases h0 : es.length = 0
 · rw [if_pos h0]
   refine qrf Tryd.func102 Tryd.ntmps102 Tryd.results102 ?_; conv => whnf
   repeat ((refine qz ?_; conv => whnf))
   exact xA rfl trivial
 · rw [if_neg h0]
   refine qrf Tryd.func102 Tryd.ntmps102 Tryd.results102 ?_; conv => whnf
   repeat ((first | refine qz ?_ | refine qc (hj) ?_); conv => whnf)
   exact xA rfl trivial
theorem aGA {es : List Ent} (hm : es.length ≤ 4096) (hk : aAI es) : AC Tryd.prog 52 [.lst 2 (es.map yT)] ⟨.v (.string (vN es)), []⟩ := by
 have hj := aBQ hm hk
 refine qrf Tryd.func52 Tryd.ntmps52 Tryd.results52 ?_; conv => whnf
 repeat ((first | refine qz ?_ | refine qc (hj) ?_); conv => whnf)
 exact xA rfl trivial
end Go.Proofs.YtodckioppgjbdaaDoor.AM
namespace Go.Proofs.YtodckioppgjbdaaDoor.AM
open Go Go.RowKit
section
variable {P : Program} {Θ : Tab} {s : St}
end
attribute [local irreducible] xI xJ xL yF yH Pre ACG
end Go.Proofs.YtodckioppgjbdaaDoor.AM
namespace Go.Proofs.YtodckioppgjbdaaDoor.AM
open Go Go.RowKit
structure RsS (r : Rst) : Prop where
 c : ∃ n : Nat, n < 19 ∧ r.code = (n : Int)
 m0 : 0 ≤ r.com
 m1 : r.com ≤ 60
 v0 : -1000000 ≤ r.val
 v1 : r.val ≤ 1000000
 kl : r.keys.length ≤ 24
 kk : r.keys.all okN = true
 ml : r.map.length ≤ 12
 me : aAI r.map
attribute [local irreducible] xI xJ xL yF yH Pre ACG
end Go.Proofs.YtodckioppgjbdaaDoor.AM
namespace Go.Proofs.YtodckioppgjbdaaDoor.AM
open Go Go.RowKit Go.ChangeShapes Go.WideShapes Go.Deep
structure Wsh where
 kind : Int
 name : ByteArray
 source : ByteArray
 key : ByteArray
 edits : List Edt
structure Mom where
 client : Int
 wish : Int
 step : Int
 op : Opr
 res : Rst
def Wsh.ok (o : Wsh) (N : Nat) : Prop := o.name.size ≤ N ∧ o.source.size ≤ N ∧ o.key.size ≤ N ∧ o.edits.length ≤ N ∧ ∀ e ∈ o.edits, e.key.size ≤ N
section
variable {S : Nat → Prop} {w : World}
end
section
variable {H : Type} {enc : TypeId × Value → H} {P : Program} {w : World} {base : Nat} {held : Bool}
end
end Go.Proofs.YtodckioppgjbdaaDoor.AM
namespace Go.Proofs.YtodckioppgjbdaaDoor.AM
open Go Go.RowKit
attribute [local irreducible] xI xJ xL yF yH Pre ACG
end Go.Proofs.YtodckioppgjbdaaDoor.AM
namespace Go.Proofs.YtodckioppgjbdaaDoor.AM
open Go Go.RowKit
structure Evt where
 ver : Int
 head : Int
 lag : Bool
def aJp (e : Evt) : AV := .agg [.v (.int .i64 e.ver), .v (.int .i64 e.head), .v (.bool e.lag)]
theorem aBW (e : Evt) : xu (aJp e) := by unfold aJp; simp [xu, y9]
theorem aIk {a b : Evt} : a = b ↔ a.ver = b.ver ∧ a.head = b.head ∧ a.lag = b.lag := by
 cases a; cases b; simp
instance : DecidableEq Evt := fun a b => decidable_of_iff _ aIk.symm
structure Wat where
 name : ByteArray
 seen : Int
 queue : List Evt
def Wat.ok (w : Wat) (N : Nat) : Prop := w.name.size ≤ N ∧ w.queue.length ≤ N
attribute [local irreducible] xI xJ xL yF yH Pre ACG
end Go.Proofs.YtodckioppgjbdaaDoor.AM
namespace Go.Proofs.YtodckioppgjbdaaDoor.AM
open Go Go.RowKit
def aK2 (cap : Nat) (es : List AV) : AbsR where
 rel w b T := (∀ g, T g ↔ g = b) ∧ ∃ s r buf, w.heap[b]? = some (.chan cap buf false s r false) ∧ buf.toList.map some = es.map yE
 frame := by
  rintro w w' b T h ⟨h1, s, r, buf, h2, h3⟩
  exact ⟨h1, s, r, buf, (h b ((h1 b).2 rfl)).trans h2, h3⟩
abbrev aGI (cap : Nat) (es : List AV) : OB := ⟨.c (aK2 cap es), 2, []⟩
section
variable {P : Program} {f : FuncId} {args : List AV} {cap : Nat} {es es' : List AV}
end
end Go.Proofs.YtodckioppgjbdaaDoor.AM
namespace Go.Proofs.YtodckioppgjbdaaDoor.AM
open Go Go.RowKit Go.Conc
section
variable {P : Program} {Θ : Tab} {n : Nat}
end
section
variable {P : Program} {Θ : Tab} {n : Nat} {ops : Array Oper} {K : St → Prop} {s : St} {k : Nat}
variable {W : World} {M : Hand} {S0 : Nat → Prop} {S : Nat → Prop} {B : Nat → Nat} {V : Nat → Value} {T : Nat → Nat → Prop} {tmps : Array Value} {w : World}
theorem SimW.chan (h : SimW W M S0 s tmps w S B V T) {l cap : Nat} {es : List AV} (hl : s.hp l = some (aGI cap es)) :
 ∃ sq rq buf, w.heap[B l]? = some (.chan cap buf false sq rq false) ∧ buf.toList.map some = es.map yE ∧
  ∀ (buf' : Array Value) (s' r' : Nat) (es' : List AV), buf'.toList.map some = es'.map yE → ∃ T', SimW W M S0 (s.set l (some (aGI cap es'))) tmps (w.setChan (B l) cap buf' false s' r' false) S B V T' := by
 obtain ⟨t0, cs, ⟨_, r0⟩, r2, r3, r4, r5, r6⟩ := h.rows.ro l _ hl
 obtain ⟨hT, sq, rq, buf, hc, hq⟩ := r0
 refine ⟨sq, rq, buf, hc, hq, fun buf' s' r' es' he => ?_⟩
 have hlt := (Array.getElem?_eq_some_iff.1 hc).1
 have hTb : T l (B l) := (hT _).2 rfl
 have hoth : ∀ g, g ≠ B l → (w.setChan (B l) cap buf' false s' r' false).heap[g]? = w.heap[g]? := fun g hg => by
  simp [World.setChan, Array.getElem?_setIfInBounds_ne (Ne.symm hg)]
 have hown : ∀ g, ¬ (V l).ownBlock = some g := fun g e => by
  have := r6 g e
  subst this
  exact h.rows.nd l _ _ hl e hTb
 have hgr : Grown w (w.setChan (B l) cap buf' false s' r' false) (Blk V T l) := ⟨rfl, rfl, rfl, by simp [World.setChan], fun g _ hg => hoth g (fun e => hg (by rw [e]; exact .inr hTb))⟩
 refine ⟨_, h.inpl (ob' := aGI cap es') hl rfl hgr ?_ (fun g hg => hg)⟩
 exact ⟨t0, [], ⟨fun t' e => (by cases e), hT, s', r', buf', heap_setChan _ _ _ _ _ _ _ _ hlt, he⟩, ⟨rfl, rfl, fun g hg => by rw [(hT g).1 hg]; simp [World.setChan]; exact hlt⟩, fun x hx => (by cases hx), Nat.succ_pos 1, by
  have := kL (w' := w.setChan (B l) cap buf' false s' r' false) r5 (fun g hg => absurd hg (hown g))
  exact ⟨rfl, this.2.imp id (fun ⟨g, cap1, cur, q1, q2⟩ => absurd (show (V l).ownBlock = some g by rw [q1]; rfl) (hown g))⟩, r6⟩
end
section
variable {P : Program} {Θ : Tab} {n : Nat} {ops : Array Oper} {K : St → Prop} {s : St} {k : Nat} {x y : Operand} {ty : TypeId} {pos : String} {after : Array Edge} {l cap : Nat} {es r : List AV} {u z : Value} {v : AV} {t : Nat} {elem : TypeId}
end
end Go.Proofs.YtodckioppgjbdaaDoor.AM
namespace Go.Proofs.YtodckioppgjbdaaDoor.AM
open Go Go.RowKit
attribute [local irreducible] xI xJ xL yF yH Pre ACG
end Go.Proofs.YtodckioppgjbdaaDoor.AM
namespace Go.Proofs.YtodckioppgjbdaaDoor.AM
open Go Go.RowKit
def aK3 (e : Evt) : Bool := decide (1 ≤ e.ver ∧ e.ver ≤ 1000000) && decide (0 ≤ e.head ∧ e.head ≤ 60)
def fB (e b : Evt) : Bool := decide (e.ver = b.ver + 1) || (e.lag && decide (b.ver < e.ver))
def evG (l : List Evt) (i : Nat) : Prop := ∃ h : i < l.length, aK3 l[i] = true ∧ ∀ m, (hm : m + 1 = i) → fB l[i] (l[m]'(by omega)) = true
open Classical in
noncomputable def aKs (l : List Evt) : Bool := decide (∀ i, i < l.length → evG l i)
attribute [local irreducible] xI xJ xL yF yH Pre ACG
end Go.Proofs.YtodckioppgjbdaaDoor.AM
namespace Go.Proofs.YtodckioppgjbdaaDoor.AM
open Go Go.RowKit
def aKu (l : List Evt) : Bool := (l.drop 1).any (·.lag)
noncomputable def qB (l : List Evt) (s : Int) : Bool := decide (l.length ≤ 4) && (aKs l && (decide ((l.getLast?.map (·.ver)) = some s) && !aKu l))
attribute [local irreducible] xI xJ xL yF yH Pre ACG
theorem aJO {a b : Wat} : a = b ↔ a.name = b.name ∧ a.seen = b.seen ∧ a.queue = b.queue := by cases a; cases b; simp
instance : DecidableEq Wat := fun a b => decidable_of_iff _ aJO.symm
end Go.Proofs.YtodckioppgjbdaaDoor.AM
namespace Go.Proofs.YtodckioppgjbdaaDoor.AM
open Go Go.RowKit
section
variable {P : Program} {f : FuncId} {args args' : List AV} {rin rout : List OB} {out : Out}
end
section
variable {s : St} {Θ : Tab}
end
section
variable {P : Program} {Θ : Tab} {s : St} {ty : TypeId} {pos : String} {after : Array Edge} {g : Option (Nat × Bool)}
end
attribute [local irreducible] xI xJ xL yF yH Pre ACG
end Go.Proofs.YtodckioppgjbdaaDoor.AM
namespace Go.Proofs.YtodckioppgjbdaaDoor.AM
open Go Go.RowKit
section
variable {s : St} {Θ : Tab}
end
attribute [local irreducible] xI xJ xL yF yH Pre ACG
end Go.Proofs.YtodckioppgjbdaaDoor.AM
namespace Go.Proofs.YtodckioppgjbdaaDoor.AM
open Go Go.RowKit
instance : DecidableEq Edt := fun a b => decidable_of_iff _ aIg.symm
attribute [local irreducible] xI xJ xL yF yH Pre ACG
end Go.Proofs.YtodckioppgjbdaaDoor.AM
namespace Go.Proofs.YtodckioppgjbdaaDoor.AM
open Go Go.RowKit
def jl (sep : ByteArray) (l : List ByteArray) : ByteArray := jn sep (fun i => (l[i]?).getD ⟨#[]⟩) l.length
theorem kV (a b c : ByteArray) : (a ++ b) ++ c = a ++ (b ++ c) := by
 apply ByteArray.ext
 simp [ByteArray.data_append, Array.append_assoc]
theorem aJ8 (a : ByteArray) : (⟨#[]⟩ : ByteArray) ++ a = a := by
 apply ByteArray.ext
 simp [ByteArray.data_append]
theorem aJs {sep x : ByteArray} : jl sep [x] = x := by
 show jn sep _ (0 + 1) = x
 rw [aHx, aHw, aJ8]; rfl
theorem aIq {sep x : ByteArray} {l : List ByteArray} (h : l ≠ []) : jl sep (l ++ [x]) = (jl sep l ++ sep) ++ x := by
 unfold jl
 have hl : 0 < l.length := List.length_pos_iff.2 h
 rw [List.length_append, show l.length + [x].length = l.length + 1 from rfl, aHy hl]
 have h1 : jn sep (fun i => ((l ++ [x])[i]?).getD ⟨#[]⟩) l.length = jn sep (fun i => (l[i]?).getD ⟨#[]⟩) l.length := aBr fun i hi => by rw [List.getElem?_append_left hi]
 rw [h1]
 have h2 : ((l ++ [x])[l.length]?).getD ⟨#[]⟩ = x := by rw [List.getElem?_append_right (Nat.le_refl _), Nat.sub_self]; rfl
 rw [h2]
theorem aK7 {sep : ByteArray} {l : List ByteArray} {A B : Nat} (hs : sep.size ≤ A) (h : ∀ x ∈ l, x.size ≤ B) : (jl sep l).size ≤ l.length * (A + B) :=
 aBs hs fun i hi => by rw [List.getElem?_eq_getElem hi]; exact h _ (List.getElem_mem hi)
def neB (p : ByteArray) : Bool := !(Nat.beq p.size 0)
def spA (a : ByteArray) (ps : List ByteArray) : ByteArray := ps.foldl (fun a p => if p.size = 0 then a else (a ++ ⟨#[32]⟩) ++ p) a
theorem kS {a : ByteArray} : spA a [] = a := rfl
theorem aKk {a p : ByteArray} {ps : List ByteArray} (h : p.size = 0) : spA a (p :: ps) = spA a ps := by unfold spA; rw [List.foldl_cons, if_pos h]
theorem vU {a p : ByteArray} {ps : List ByteArray} (h : ¬ p.size = 0) : spA a (p :: ps) = spA ((a ++ ⟨#[32]⟩) ++ p) ps := by unfold spA; rw [List.foldl_cons, if_neg h]
theorem aFq {a : ByteArray} {ps qs : List ByteArray} : spA a (ps ++ qs) = spA (spA a ps) qs := by unfold spA; rw [List.foldl_append]
theorem aI1 {p : ByteArray} (h : p.size = 0) : neB p = false := by unfold neB; rw [h]; rfl
theorem aGX {p : ByteArray} (h : ¬ p.size = 0) : neB p = true := by
 unfold neB
 cases hb : Nat.beq p.size 0 with
 | false => rfl
 | true => exact absurd (Nat.eq_of_beq_eq_true hb) h
theorem aEN : ∀ (ps l : List ByteArray), l ≠ [] → jl ⟨#[32]⟩ (l ++ ps.filter neB) = spA (jl ⟨#[32]⟩ l) ps
 | [], l, _ => by rw [List.filter_nil, List.append_nil, kS]
 | p :: ps, l, h => by
  by_cases hp : p.size = 0
  · rw [List.filter_cons_of_neg (by rw [aI1 hp]; decide), aKk hp, aEN ps l h]
  · rw [List.filter_cons_of_pos (aGX hp), vU hp, ← aIq h, ← aEN ps (l ++ [p]) (by simp), List.append_assoc]; rfl
def kG (ps : List ByteArray) : ByteArray := jl ⟨#[32]⟩ (ps.filter neB)
theorem aEj {p : ByteArray} {ps : List ByteArray} (hp : ¬ p.size = 0) : kG (p :: ps) = spA p ps := by
 unfold kG
 rw [List.filter_cons_of_pos (aGX hp), show p :: ps.filter neB = [p] ++ ps.filter neB from rfl, aEN ps [p] (by simp), aJs]
theorem aFr {ps : List ByteArray} {B : Nat} (h : ∀ x ∈ ps, x.size ≤ B) : (kG ps).size ≤ ps.length * (1 + B) := by
 unfold kG
 refine Nat.le_trans (aK7 (A := 1) (B := B) (by rw [qM]; omega) fun x hx => h x (List.mem_filter.1 hx).1) ?_
 exact Nat.mul_le_mul_right _ (List.length_filter_le _ _)
def aBY (l t : ByteArray) : ByteArray := if t.size = 0 then ⟨#[]⟩ else kG [l, t]
attribute [local irreducible] xI xJ xL yF yH Pre ACG
end Go.Proofs.YtodckioppgjbdaaDoor.AM
namespace Go.Proofs.YtodckioppgjbdaaDoor.AM
open Go Go.RowKit
section
variable {s : St} {Θ : Tab}
end
section
variable {P : Program} {Θ : Tab} {s : St} {ty : TypeId} {pos : String} {after : Array Edge} {g : Option (Nat × Bool)}
end
section
variable {P : Program} {Θ : Tab} {s : St}
def mkO : Nat → List Operand → List (Nat × Operand)
 | _, [] => []
 | i, c :: r => (i, c) :: mkO (i + 1) r
theorem aF3 : ∀ (xs : List Operand) (cs : List Value) (i : Nat), xs.map s.ev = cs.map .v → xS s ((mkO i xs).map (·.2)) = []
 | [], _, _, _ => by simp [mkO, xS, xQ]
 | x :: xs, [], _, h => by cases h
 | x :: xs, c :: cs, i, h => by
  obtain ⟨h1, h2⟩ := List.cons.inj h
  have := aF3 xs cs (i + 1) h2
  unfold xS at this ⊢
  simp only [mkO, List.map_cons, xQ, h1, yD, List.nil_append]
  exact this
theorem aHE : ∀ (xs : List Operand) (cs : List Value) (i : Nat), xs.map s.ev = cs.map .v → (∀ c ∈ cs, c.oneCell' = true) → ul ((mkO i xs).map (·.2))
 | [], _, _, _, _ => by intro y hy; simp [mkO] at hy
 | x :: xs, [], _, h, _ => by cases h
 | x :: xs, c :: cs, i, h, hc => by
  obtain ⟨h1, h2⟩ := List.cons.inj h
  intro y hy v hv
  simp only [mkO, List.map_cons, List.mem_cons] at hy
  rcases hy with rfl | hy
  · subst hv
    have e : c = v := by have : AV.v v = AV.v c := h1; cases this; rfl
    subst e; exact hc _ (by simp)
  · exact aHE xs cs (i + 1) h2 (fun c hc' => hc c (by simp [hc'])) y hy v hv
theorem aHF : ∀ (xs : List Operand) (cs : List Value) (i : Nat) (zs : List AV), xs.map s.ev = cs.map .v → (∀ c ∈ cs, c.oneCell' = true) → i + cs.length = zs.length → (∀ z ∈ zs, asz z = 1) → uY s zs (mkO i xs) ∧ yS s zs (mkO i xs) = zs.take i ++ cs.map .v
 | [], [], i, zs, _, _, h, _ => by
  refine ⟨trivial, ?_⟩
  simp only [mkO, yS, List.map_nil, List.append_nil]
  rw [List.take_of_length_le (by simp at h; omega)]
 | [], c :: cs, _, _, h, _, _, _ => by cases h
 | x :: xs, [], _, _, h, _, _, _ => by cases h
 | x :: xs, c :: cs, i, zs, he, hc, h, hz => by
  obtain ⟨e1, e2⟩ := List.cons.inj he
  have hi : i < zs.length := by simp only [List.length_cons] at h; omega
  have h1 := aHF xs cs (i + 1) (zs.set i (.v c)) e2 (fun c hc' => hc c (by simp [hc'])) (by rw [List.length_set]; simp only [List.length_cons] at h; omega) (fun z hz' => by
   rcases List.mem_or_eq_of_mem_set hz' with q | q
   · exact hz z q
   · subst q; rfl)
  have hd : s.dat (s.ev x) = .v c := by rw [e1]; rfl
  refine ⟨⟨⟨zs[i], by simp [hi], by rw [hd, hz _ (List.getElem_mem hi)]; rfl⟩, by rw [e1]; exact hc c (by simp), by rw [hd]; exact h1.1⟩, ?_⟩
  simp only [mkO, yS, hd]
  rw [h1.2, List.take_succ_eq_append_getElem (by simpa using hi), List.getElem_set_self, List.take_set_of_le (Nat.le_refl _)]
  simp
theorem aAY {d : Nat} {ty : TypeId} {pos : String} {after : Array Edge} {g : Option (Nat × Bool)} {t el b m : Nat} {z : AV} {ps : Array (Nat × Operand)} (xs : List Operand) (cs : List Value) (hev : xs.map s.ev = cs.map .v) (hf : s.hp (d + 1) = none) (ht : Θ.look t = .slice el 1 b z) (hps : ps = (mkO 0 xs).toArray) (hm : m = cs.length) (hz : Nat.beq (asz z) 1 = true) (hl : Nat.ble cs.length 65536 = true) (hc : ∀ c ∈ cs, c.oneCell' = true) (hok : okL (d + 1) = true := by rfl) :
 Pre P Θ ⟨some d, .buildSlice t m ps, ty, pos, after, g⟩ s ⟨.own (d + 1), some fun s' => s'.set (d + 1) (some ⟨.s el, 1, cs.map .v⟩)⟩ := by
 subst hps hm
 have h1 := aHF (s := s) xs cs 0 (List.replicate cs.length z) hev hc (by simp) (fun y hy => by rw [List.eq_of_mem_replicate hy]; exact Nat.eq_of_beq_eq_true hz)
 have ho := aF3 (s := s) xs cs 0 hev
 refine ⟨d, el, 1, b, z, rfl, hf, hok, ht, by have := Nat.le_of_ble_eq_true hl; omega, .inl ⟨h1.1, aHE xs cs 0 hev hc, ?_, ?_⟩⟩
 · show (xS s ((mkO 0 xs).map (·.2))).all okL = true
   rw [ho]; rfl
 · show _ = Eff.mk _ (wN (xS s ((mkO 0 xs).map (·.2))) fun s' => s'.set (d + 1) (some ⟨.s el, 1, yS s (List.replicate cs.length z) (mkO 0 xs)⟩))
   rw [ho, h1.2]; rfl
theorem aEg {d : Nat} {ty : TypeId} {pos : String} {after : Array Edge} {g : Option (Nat × Bool)} {t el b m : Nat} {z : AV} {ps : Array (Nat × Operand)} (xs : List Operand) (cs : List Value) (hev : xs.map s.ev = cs.map .v) (hf : s.hp (d + 1) = none) (ht : Θ.look t = .slice el 1 b z) (hps : ps = (mkO 0 xs).toArray) (hm : m = cs.length) (hz : Nat.beq (asz z) 1 = true) (hl : Nat.ble cs.length 65536 = true) (hc : ∀ c ∈ cs, c.oneCell' = true) (hok : okL (d + 1) = true := by rfl) :
 Sft P Θ ⟨some d, .buildSlice t m ps, ty, pos, after, g⟩ s (.own (d + 1)) [] [(d + 1, some ⟨.s el, 1, cs.map .v⟩)] := by
 have hmem : ∀ (ys : List Operand) (i : Nat) (x : Operand), x ∈ ys → ∃ j, (j, x) ∈ mkO i ys := by
  intro ys
  induction ys with
  | nil => intro i x h; cases h
  | cons y ys ih =>
   intro i x h
   rcases List.mem_cons.1 h with rfl | h
   · exact ⟨i, by simp [mkO]⟩
   · obtain ⟨j, hj⟩ := ih (i + 1) x h
     exact ⟨j, by simp [mkO, hj]⟩
 refine ⟨fun s' h1 h2 => ⟨⟨.own (d + 1), some fun s'' => s''.set (d + 1) (some ⟨.s el, 1, cs.map .v⟩)⟩, ?_, fun K hK => .done ?_⟩, fun l ob h => ?_, fun l hl => (by cases hl), fun l hl => .inl ?_, fun l ⟨o, hl⟩ => .inl ?_, fun l ob ⟨o, hl⟩ ho => ?_⟩
 · have hev' : xs.map s'.ev = cs.map .v := by
    rw [← hev]
    refine List.map_congr_left fun x hx => h1 x ?_
    obtain ⟨j, hj⟩ := hmem xs 0 x hx
    subst hps
    simp only [Op.operands, List.map_toArray, List.mem_toArray, List.mem_map]
    exact ⟨(j, x), hj, rfl⟩
   exact aAY xs cs hev' ((h2 _ (.inl (in1 _ _))).1.trans hf) ht hps hm hz hl hc hok
 · rw [uM, aFp]; exact hK
 · obtain ⟨_, e⟩ := nu1 h; cases e; rfl
 · simp only [AV.names] at hl; rw [← Nat.eq_of_beq_eq_true hl]; exact in1 _ _
 · obtain ⟨rfl, _⟩ := nu1 hl; exact ⟨d, rfl, rfl⟩
 · obtain ⟨rfl, _⟩ := nu1 hl; rw [hf] at ho; cases ho
end
section
variable {P : Program} {Θ : Tab} {s : St} {ty : TypeId} {pos : String} {after : Array Edge} {g : Option (Nat × Bool)}
end
section
variable {s : St} {Θ : Tab}
end
section
variable {P : Program} {Θ : Tab} {s : St} {ty : TypeId} {pos : String} {after : Array Edge} {g : Option (Nat × Bool)}
end
theorem aK5 {ps : List ByteArray} {k : Nat} (h : k < ps.length) (hp : ¬ ps[k].size = 0) : (ps.take k).filter neB ++ [ps[k]] = (ps.take (k + 1)).filter neB := by
 rw [List.take_succ_eq_append_getElem h, List.filter_append, List.filter_cons_of_pos (aGX hp)]; rfl
theorem aK4 {ps : List ByteArray} {k : Nat} (h : k < ps.length) (hp : ps[k].size = 0) : (ps.take (k + 1)).filter neB = (ps.take k).filter neB := by
 rw [List.take_succ_eq_append_getElem h, List.filter_append, List.filter_cons_of_neg (by rw [aI1 hp]; decide), List.filter_nil, List.append_nil]
theorem aJ6 {p : ByteArray} (h : p.size = 0) : p = ⟨#[]⟩ := by
 obtain ⟨a⟩ := p
 have : a = #[] := Array.eq_empty_of_size_eq_zero h
 rw [this]
theorem aJ7 {p : ByteArray} (h : ¬ p.size = 0) : ¬ p = ⟨#[]⟩ := fun e => h (by rw [e]; rfl)
attribute [local irreducible] xI xJ xL yF yH Pre ACG
theorem aAC {ps : List ByteArray} (hm : ps.length ≤ 4096) (hk : ∀ p ∈ ps, p.size ≤ 1000000) : AC Tryd.prog 94 [.lst 1 (ps.map yB)] ⟨.v (.string (kG ps)), []⟩ := by
 have hfl := List.length_filter_le neB ps
 have hj := aFR (sep := ⟨#[32]⟩) (xs := ps.filter neB) (by omega) (by
  have h1 := aFr hk
  have h2 : ps.length * (1 + 1000000) ≤ 4096 * (1 + 1000000) := Nat.mul_le_mul_right _ hm
  unfold kG jl at h1; omega)
 unfold kG jl
 generalize jn ⟨#[32]⟩ (fun i => ((ps.filter neB)[i]?).getD ⟨#[]⟩) (ps.filter neB).length = R at *
 refine qrf Tryd.func94 Tryd.ntmps94 Tryd.results94 ?_; conv => whnf
 repeat ((refine qz ?_; conv => whnf))
 refine xX (ι := { k : Nat // k ≤ ps.length }) (fun k => ⟨[(3, .own 4), (6, .lst 1 (ps.map yB)), (7, .v (.int .i64 (ps.length : Int))), (8, .v (.int .i64 (k.1 : Int)))], [(4, ⟨9, 1, ((ps.take k.1).filter neB).map yB⟩)]⟩) (fun k => ps.length - k.1) ⟨0, Nat.zero_le _⟩ (by exact qle) ?_
 rintro ⟨k, hk'⟩
 dsimp only
 conv => whnf
 by_cases hlt : k < ps.length
 · have hle := List.length_filter_le neB (ps.take k)
   rw [List.length_take] at hle
   by_cases hp : ps[k].size = 0
   · have he := aJ6 hp
     repeat ((first | refine qp (xk (aAf he) rfl rfl rfl) ?_ | refine qz ?_ | refine qst ?_); conv => whnf)
     exact ⟨⟨k + 1, hlt⟩, ⟨⟨(show some (OB.mk _ _ (List.map yB ((ps.take k).filter neB))) = some (OB.mk _ _ (List.map yB ((ps.take (k + 1)).filter neB))) by rw [aK4 hlt hp]), trivial⟩, .inl ⟨rfl, rfl⟩, .inl ⟨rfl, rfl⟩, .inl ⟨rfl, rfl⟩, .inl ⟨rfl, rfl⟩, trivial⟩, by simp; omega⟩
   · have he := aJ7 hp
     repeat ((first | refine qp (xk (aIb he) rfl rfl rfl) ?_ | refine qz ?_ | refine qst ?_ | refine qr (kR _ _ (aK5 hlt hp) (by omega) rfl rfl rfl rfl rfl rfl rfl) ?_); conv => whnf)
     exact ⟨⟨k + 1, hlt⟩, by exact qle, by simp; omega⟩
 · have hkk : k = ps.length := by omega
   subst hkk
   rw [List.take_length]
   repeat ((first | refine qz ?_ | refine qc (hj) ?_); conv => whnf)
   exact xA rfl trivial
theorem aJR {l t : ByteArray} (h0 : l.size ≤ 1000) (h1 : t.size ≤ 100000) : AC Tryd.prog 120 [.v (.string l), .v (.string t)] ⟨.v (.string (aBY l t)), []⟩ := by
 unfold aBY
 by_cases h : t.size = 0
 · rw [if_pos h]
   have he := aJ6 h
   refine qrf Tryd.func120 Tryd.ntmps120 Tryd.results120 ?_; conv => whnf
   repeat ((first | refine qp (xk (aC0 he) rfl rfl rfl) ?_ | refine qz ?_); conv => whnf)
   exact xA rfl trivial
 · rw [if_neg h]
   have he := aJ7 h
   have c1 := aAC (ps := [l, t]) (by simp) (by intro p hp; simp only [List.mem_cons, List.not_mem_nil, or_false] at hp; rcases hp with rfl | rfl <;> omega)
   refine qrf Tryd.func120 Tryd.ntmps120 Tryd.results120 ?_; conv => whnf
   repeat (first | (refine qp (xk (aCZ he) rfl rfl rfl) ?_; conv => whnf) | (refine qz ?_; conv => whnf) | (refine qr (aAY [.tmp 7, .tmp 8] [.string l, .string t] rfl rfl rfl rfl rfl rfl rfl (by intro c hc; simp only [List.mem_cons, List.not_mem_nil, or_false] at hc; rcases hc with rfl | rfl <;> rfl)) ?_; conv => whnf) | (refine qc (c1) ?_; conv => whnf))
   exact xA rfl trivial
end Go.Proofs.YtodckioppgjbdaaDoor.AM
namespace Go.Proofs.YtodckioppgjbdaaDoor.AM
open Go Go.RowKit
structure RfS (r : Rf) : Prop where
 n : r.name.size ≤ 12
 v0 : 0 ≤ r.ver
 v1 : r.ver ≤ 1000000
 h0 : 0 ≤ r.head
 h1 : r.head ≤ 60
structure BasS (b : Bas) : Prop where
 sl : b.store.length ≤ 60
 sc : ∀ c ∈ b.store, CmtS c ∧ c.1.length ≤ 2 ∧ c.2.length ≤ 12
 rl : b.refs.length ≤ 8
 rr : ∀ r ∈ b.refs, RfS r
theorem aBi {b : Bas} (h : kW b = true) : BasS b := by
 unfold kW aA9 at h
 simp only [Bool.and_eq_true, decide_eq_true_eq] at h
 obtain ⟨⟨hl, hc⟩, hr, _⟩ := h
 have hrs := aEa hr
 refine ⟨hl.2, fun c hcm => ?_, hrs.1, fun r hrm => ?_⟩
 · obtain ⟨i, hi, rfl⟩ := List.getElem_of_mem hcm
   have h1 := aEA hc i hi
   unfold j6 at h1
   rw [Bool.and_eq_true] at h1
   have h2 := aHD h1.1
   have h3 : aDh (0 + i) (b.store[i]).1 := by
    have := h1.2
    unfold kC at this
    simpa using this
   refine ⟨⟨by have := h3.1; omega, fun p hp => ?_, by omega, aGU h1.1⟩, h3.1, h2⟩
   obtain ⟨j, hj, rfl⟩ := List.getElem_of_mem hp
   obtain ⟨_, g1, g2, _⟩ := h3.2.2 j hj
   omega
 · obtain ⟨i, hi, rfl⟩ := List.getElem_of_mem hrm
   obtain ⟨_, g, _⟩ := hrs.2 i hi
   unfold vY at g
   simp only [Bool.and_eq_true, decide_eq_true_eq] at g
   refine ⟨aHJ g.1, by omega, by omega, ?_, ?_⟩
   · have := g.2.2; split at this <;> (simp only [decide_eq_true_eq] at this; omega)
   · have := g.2.2; split at this <;> (simp only [decide_eq_true_eq] at this; omega)
attribute [local irreducible] xI xJ xL yF yH Pre ACG
end Go.Proofs.YtodckioppgjbdaaDoor.AM
namespace Go.Proofs.YtodckioppgjbdaaDoor.AM
open Go Go.RowKit
def jH (a : ByteArray) (l : List Int) : ByteArray := l.foldl (fun t p => t ++ (⟨#[32, 111, 102, 32]⟩ ++ yO p)) a
def aBS (i : Nat) (c : Cmt) : ByteArray := (jH (⟨#[99, 111, 109, 109, 105, 116, 32]⟩ ++ yO ((i + 1 : Nat) : Int)) c.1 ++ ⟨#[32, 109, 97, 112, 32]⟩) ++ vN c.2
def aE9 (r : Rf) : ByteArray := ((⟨#[98, 114, 97, 110, 99, 104, 32]⟩ ++ r.name) ++ ⟨#[32, 118, 101, 114, 115, 105, 111, 110, 32]⟩) ++ yO r.ver
def aB7 (r : Rf) : ByteArray := if r.gone = true then aE9 r ++ ⟨#[32, 103, 111, 110, 101]⟩ else aE9 r ++ (⟨#[32, 104, 101, 97, 100, 32]⟩ ++ yO r.head)
def zRf : Rf := ⟨⟨#[]⟩, 0, 0, false⟩
def vD (l : List Cmt) : Nat → List ByteArray
 | 0 => []
 | i + 1 => vD l i ++ [aBS i ((l[i]?).getD ([], []))]
def wK (a : List ByteArray) (l : List Rf) : Nat → List ByteArray
 | 0 => a
 | i + 1 => wK a l i ++ [aB7 ((l[i]?).getD zRf)]
def aBR (b : Bas) : List ByteArray := wK (vD b.store b.store.length) b.refs b.refs.length
theorem vk {l : List Cmt} : ∀ {i : Nat}, (vD l i).length = i
 | 0 => rfl
 | i + 1 => by rw [vD, List.length_append, vk (i := i)]; rfl
theorem jY {a : List ByteArray} {l : List Rf} : ∀ {i : Nat}, (wK a l i).length = a.length + i
 | 0 => rfl
 | i + 1 => by rw [wK, List.length_append, jY (i := i)]; simp; omega
theorem aHp {b : Bas} : (aBR b).length = b.store.length + b.refs.length := by unfold aBR; rw [jY, vk]
theorem aFV {l : List Cmt} {i : Nat} (h : i < l.length) : vD l (i + 1) = vD l i ++ [aBS i l[i]] := by rw [vD]; simp [h]
theorem aFe {a : List ByteArray} {l : List Rf} {i : Nat} (h : i < l.length) : wK a l (i + 1) = wK a l i ++ [aB7 l[i]] := by rw [wK]; simp [h]
theorem aCa : ∀ (l : List Int) (a : ByteArray), (∀ p ∈ l, 0 ≤ p ∧ p ≤ 1000) → (jH a l).size ≤ a.size + 18 * l.length
 | [], a, h => by simp [jH]
 | p :: l, a, h => by
  have h1 := aCa l (a ++ (⟨#[32, 111, 102, 32]⟩ ++ yO p)) (fun q hq => h q (by simp [hq]))
  have h2 := zq (n := p) (by have := h p (by simp); omega) (by have := h p (by simp); omega)
  have e : (⟨#[32, 111, 102, 32]⟩ : ByteArray).size = 4 := rfl
  rw [ByteArray.size_append, ByteArray.size_append] at h1
  show (jH (a ++ (⟨#[32, 111, 102, 32]⟩ ++ yO p)) l).size ≤ _
  simp only [List.length_cons]; omega
noncomputable def j5 (b : Bas) : List ByteArray × Int := if kW b = true then (aBR b, 0) else ([], 1)
attribute [local irreducible] xI xJ xL yF yH Pre ACG
set_option maxHeartbeats 4000000 in
theorem aFz {b : Bas} (h : BasS b) : AC Tryd.prog 78 [zL b] ⟨.own 0, [⟨9, 1, (aBR b).map yB⟩]⟩ := by
 have hsl := h.sl
 have hrl := h.rl
 have w1 : (⟨#[99, 111, 109, 109, 105, 116, 32]⟩ : ByteArray).size = 7 := rfl
 have w2 : (⟨#[32, 111, 102, 32]⟩ : ByteArray).size = 4 := rfl
 have w3 : (⟨#[32, 109, 97, 112, 32]⟩ : ByteArray).size = 5 := rfl
 have w4 : (⟨#[98, 114, 97, 110, 99, 104, 32]⟩ : ByteArray).size = 7 := rfl
 have w5 : (⟨#[32, 118, 101, 114, 115, 105, 111, 110, 32]⟩ : ByteArray).size = 9 := rfl
 have w6 : (⟨#[32, 103, 111, 110, 101]⟩ : ByteArray).size = 5 := rfl
 have w7 : (⟨#[32, 104, 101, 97, 100, 32]⟩ : ByteArray).size = 6 := rfl
 refine qrf Tryd.func78 Tryd.ntmps78 Tryd.results78 ?_; conv => whnf
 repeat ((refine qz ?_; conv => whnf))
 refine xX (ι := { i : Nat // i ≤ b.store.length }) (fun i => ⟨[(1, .optr 2 0 [] 0), (3, .own 11), (4, .v (.int .i64 (i.1 : Int)))], [(2, ⟨64, 2, [zL b]⟩), (11, ⟨9, 1, (vD b.store i.1).map yB⟩)]⟩) (fun i => b.store.length - i.1) ⟨0, Nat.zero_le _⟩ (by exact qle) ?_
 rintro ⟨i, hi⟩
 dsimp only
 conv => whnf
 by_cases hlt : i < b.store.length
 · obtain ⟨hc, hp2, hm2⟩ := h.sc _ (List.getElem_mem hlt)
   have hcs := aFV hlt
   have hcl := vk (l := b.store) (i := i)
   have n1 := aAB (n := ((i + 1 : Nat) : Int)) (by omega) (by omega)
   have z1 := zq (n := ((i + 1 : Nat) : Int)) (by omega) (by omega)
   repeat (first | (refine qp (xk (aAe (c := ((i + 1 : Nat) : Int)) (by omega) (by omega) (by omega)) rfl rfl rfl) ?_; conv => whnf) | (refine qz ?_; conv => whnf) | (refine qc (n1) ?_; conv => whnf) | (refine qp (xk (wB (by first | omega | (simp only [ByteArray.size_append]; omega))) rfl rfl rfl) ?_; conv => whnf))
   generalize vD b.store i = L at hcs hcl ⊢
   unfold aBS at hcs
   generalize hA : (⟨#[99, 111, 109, 109, 105, 116, 32]⟩ ++ yO ((i + 1 : Nat) : Int) : ByteArray) = A at hcs ⊢
   have hAs : A.size ≤ 21 := by rw [← hA, ByteArray.size_append]; omega
   refine xX (ι := { k : Nat // k ≤ (b.store[i]).1.length }) (fun k => ⟨[(1, .optr 2 0 [] 0), (3, .own 11), (4, .v (.int .i64 (i : Int))), (5, .v (.string (jH A ((b.store[i]).1.take k.1)))), (6, .v (.int .i64 (k.1 : Int)))], [(2, ⟨64, 2, [zL b]⟩), (11, ⟨9, 1, L.map yB⟩)]⟩) (fun k => (b.store[i]).1.length - k.1) ⟨0, Nat.zero_le _⟩ (by exact qle) ?_
   rintro ⟨k, hk⟩
   dsimp only
   conv => whnf
   by_cases hkt : k < (b.store[i]).1.length
   · have hp := hc.pp _ (List.getElem_mem hkt)
     have hs : jH A ((b.store[i]).1.take (k + 1)) = jH A ((b.store[i]).1.take k) ++ (⟨#[32, 111, 102, 32]⟩ ++ yO ((b.store[i]).1[k])) := aGs hkt
     have hz := aCa ((b.store[i]).1.take k) A (fun p hp => hc.pp p (List.mem_of_mem_take hp))
     rw [List.length_take] at hz
     have c3 := aAB (n := (b.store[i]).1[k]) (by omega) (by omega)
     have z3 := zq (n := (b.store[i]).1[k]) (by omega) (by omega)
     generalize jH A ((b.store[i]).1.take k) = E at hs hz ⊢
     repeat (first | (refine qz ?_; conv => whnf) | (refine qc (c3) ?_; conv => whnf) | (refine qp (xk (wB (by first | omega | (simp only [ByteArray.size_append]; omega))) rfl rfl rfl) ?_; conv => whnf))
     rw [← hs]
     exact ⟨⟨k + 1, hkt⟩, by exact qle, by simp; omega⟩
   have e : k = (b.store[i]).1.length := by omega
   subst e
   rw [List.take_length]
   have hz := aCa (b.store[i]).1 A (fun p hp => hc.pp p hp)
   have hmz := aF2 hc.me
   have c4 := aGj hm2 hc.me
   generalize jH A (b.store[i]).1 = E at hz hcs ⊢
   repeat (first | (refine qz ?_; conv => whnf) | (refine qc (c4) ?_; conv => whnf) | (refine qp (xk (wB (by first | omega | (simp only [ByteArray.size_append]; omega))) rfl rfl rfl) ?_; conv => whnf))
   refine qr (kR (f := yB) (xs := L) ((E ++ ⟨#[32, 109, 97, 112, 32]⟩) ++ vN (b.store[i]).2) (L ++ [(E ++ ⟨#[32, 109, 97, 112, 32]⟩) ++ vN (b.store[i]).2]) rfl (by omega) rfl rfl rfl rfl rfl rfl rfl) ?_
   conv => whnf
   repeat ((refine qz ?_; conv => whnf))
   exact ⟨⟨i + 1, hlt⟩, by dsimp only; rw [hcs]; exact qle, by simp; omega⟩
 have e : i = b.store.length := by omega
 subst e
 repeat ((refine qz ?_; conv => whnf))
 have hcl := vk (l := b.store) (i := b.store.length)
 unfold aBR
 generalize vD b.store b.store.length = L at hcl ⊢
 refine xX (ι := { i : Nat // i ≤ b.refs.length }) (fun i => ⟨[(1, .optr 2 0 [] 0), (3, .own 11), (7, .v (.int .i64 (i.1 : Int)))], [(2, ⟨64, 2, [zL b]⟩), (11, ⟨9, 1, (wK L b.refs i.1).map yB⟩)]⟩) (fun i => b.refs.length - i.1) ⟨0, Nat.zero_le _⟩ (by exact qle) ?_
 rintro ⟨i, hi⟩
 dsimp only
 conv => whnf
 by_cases hlt : i < b.refs.length
 · have hr := h.rr _ (List.getElem_mem hlt)
   obtain ⟨r1, r2, r3, r4, r5⟩ := hr
   have hcs := aFe (a := L) hlt
   have hrl' := jY (a := L) (l := b.refs) (i := i)
   have n1 := aAB (n := (b.refs[i]).ver) (by omega) (by omega)
   have z1 := zq (n := (b.refs[i]).ver) (by omega) (by omega)
   have n2 := aAB (n := (b.refs[i]).head) (by omega) (by omega)
   have z2 := zq (n := (b.refs[i]).head) (by omega) (by omega)
   generalize wK L b.refs i = M at hcs hrl' ⊢
   unfold aB7 aE9 at hcs
   repeat (first | (refine qz ?_; conv => whnf) | (refine qdr ?_; conv => whnf) | (refine qst ?_; conv => whnf) | (refine qc (n1) ?_; conv => whnf) | (refine qp (xk (wB (by first | omega | (simp only [ByteArray.size_append]; omega))) rfl rfl rfl) ?_; conv => whnf))
   cases hg : (b.refs[i]).gone
   · rw [hg, if_neg (by simp)] at hcs
     conv => whnf
     repeat (first | (refine qz ?_; conv => whnf) | (refine qdr ?_; conv => whnf) | (refine qc (n2) ?_; conv => whnf) | (refine qp (xk (wB (by first | omega | (simp only [ByteArray.size_append]; omega))) rfl rfl rfl) ?_; conv => whnf))
     refine qr (kR (f := yB) (xs := M) _ _ hcs.symm (by omega) rfl rfl rfl rfl rfl rfl rfl) ?_
     conv => whnf
     repeat ((refine qz ?_; conv => whnf))
     exact ⟨⟨i + 1, hlt⟩, by exact qle, by simp; omega⟩
   · rw [hg, if_pos rfl] at hcs
     conv => whnf
     repeat (first | (refine qz ?_; conv => whnf) | (refine qdr ?_; conv => whnf) | (refine qp (xk (wB (by first | omega | (simp only [ByteArray.size_append]; omega))) rfl rfl rfl) ?_; conv => whnf))
     refine qr (kR (f := yB) (xs := M) _ _ hcs.symm (by omega) rfl rfl rfl rfl rfl rfl rfl) ?_
     conv => whnf
     repeat ((refine qz ?_; conv => whnf))
     exact ⟨⟨i + 1, hlt⟩, by exact qle, by simp; omega⟩
 have e : i = b.refs.length := by omega
 subst e
 repeat ((refine qz ?_; conv => whnf))
 exact aA4 rfl rfl rfl
theorem aD4 {b : Bas} (hb : b.ok maxLen) : AC Tryd.prog 34 [zL b] ⟨.tup [.own 0, .v (.int .i64 (j5 b).2)], [⟨9, 1, (j5 b).1.map yB⟩]⟩ := by
 have c1 := aHk hb
 unfold j5
 cases hx : kW b
 case false =>
  rw [hx] at c1
  refine qrf Tryd.func34 Tryd.ntmps34 Tryd.results34 ?_; conv => whnf
  repeat ((first | refine qz ?_ | refine qc (c1) ?_); conv => whnf)
  exact aAs rfl rfl rfl
 rw [hx] at c1
 have c2 := aFz (aBi hx)
 refine qrf Tryd.func34 Tryd.ntmps34 Tryd.results34 ?_; conv => whnf
 repeat ((first | refine qz ?_ | refine qc (c1) ?_ | refine qc (c2) ?_); conv => whnf)
 exact aAs rfl rfl rfl
end Go.Proofs.YtodckioppgjbdaaDoor.AM
