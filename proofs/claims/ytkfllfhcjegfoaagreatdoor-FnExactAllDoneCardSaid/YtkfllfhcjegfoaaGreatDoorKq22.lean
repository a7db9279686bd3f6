/- Texts of the machine over data, folded. -/
import Derived.Test.YtkfllfhcjegfoaaGreatDoorKq6
import Derived.Test.YtkfllfhcjegfoaaGreatDoorKq14
import Derived.Test.YtkfllfhcjegfoaaGreatDoorKq16
import Derived.Test.YtkfllfhcjegfoaaGreatDoorKq21
import Derived.Test.YtkfllfhcjegfoaaGreatDoorKq12
import Derived.Test.YtkfllfhcjegfoaaGreatDoorKq10
set_option linter.unusedVariables false
set_option linter.unusedSimpArgs false
set_option maxRecDepth 100000
namespace Go.Proofs.YtkfllfhcjegfoaaGreatDoor.AM
open Go Go.RowKit
def szV {α : Type} (g : α → Int → Int) (es : List α) (l : Int) : Int := if l - es.length < 0 then -1 else szG g es (l - es.length)
theorem aEZ {α : Type} {g : α → Int → Int} {es : List α} {k : Nat} {l : Int} (h : k < es.length) : szG g (es.drop k) l = if g es[k] l < 0 then -1 else szG g (es.drop (k + 1)) (g es[k] l) := by
 rw [List.drop_eq_getElem_cons h, szG]
theorem aKZ {α : Type} {g : α → Int → Int} {P : α → Prop} (hg : ∀ x l, 0 ≤ g x l → l ≤ 1048576 → P x ∧ g x l ≤ 1048576) : ∀ (es : List α) (l : Int), 0 ≤ szG g es l → l ≤ 1048576 → (∀ x ∈ es, P x) ∧ szG g es l ≤ 1048576
 | [], l, h, h1 => ⟨by simp, h1⟩
 | x :: es, l, h, h1 => by
  unfold szG at h ⊢
  split at h
  · omega
  · rename_i hn
    rw [if_neg hn]
    obtain ⟨k1, k2⟩ := hg x l (by omega) h1
    obtain ⟨j1, j2⟩ := aKZ hg es _ h k2
    refine ⟨fun y hy => ?_, j2⟩
    rcases List.mem_cons.1 hy with rfl | hy
    · exact k1
    · exact j1 y hy
theorem aBF {α : Type} {g : α → Int → Int} {P : α → Prop} (hg : ∀ x l, 0 ≤ g x l → l ≤ 1048576 → P x ∧ g x l ≤ 1048576) {es : List α} {l : Int} (h : 0 ≤ szV g es l) (h1 : l ≤ 1048576) : es.length ≤ 1048576 ∧ (∀ x ∈ es, P x) ∧ szV g es l ≤ 1048576 := by
 unfold szV at h ⊢
 split at h
 · omega
 · rename_i hn
   rw [if_neg hn]
   obtain ⟨k1, k2⟩ := aKZ hg es _ h (by omega)
   exact ⟨by omega, k1, k2⟩
def Cli.ok (c : Cli) : Prop := c.ws.length ≤ maxLen ∧ (∀ w ∈ c.ws, w.ok maxLen) ∧ c.mp.length ≤ maxLen ∧ ∀ e ∈ c.mp, e.1.size ≤ maxLen
def Cli.sm (c : Cli) : Prop := c.ws.length ≤ 1048576 ∧ (∀ w ∈ c.ws, w.edits.length ≤ 1048576) ∧ c.mp.length ≤ 1048576
def Mom.ok (m : Mom) : Prop := m.op.ok maxLen ∧ m.res.ok maxLen
def Mom.sm (m : Mom) : Prop := m.op.edits.length ≤ 1048576 ∧ m.res.keys.length ≤ 1048576 ∧ m.res.map.length ≤ 1048576
def vF (c : Cli) (l : Int) : Int := if jV c.ws l < 0 then -1 else if szL eSz c.mp (jV c.ws l) < 0 then -1 else szL eSz c.mp (jV c.ws l)
theorem aQW {es : List Wsh} {l : Int} : jV es l = szV szH es l := rfl
theorem aIE {es : List Wsh} {l : Int} (h : 0 ≤ jV es l) (h1 : l ≤ 1048576) : es.length ≤ 1048576 ∧ (∀ w ∈ es, w.edits.length ≤ 1048576) ∧ jV es l ≤ 1048576 := by
 rw [aQW] at h ⊢
 exact aBF (P := fun w => w.edits.length ≤ 1048576) (fun x l h0 h1 => by obtain ⟨k1, k2⟩ := aOC h0 h1; exact ⟨k2, by omega⟩) h h1
theorem aEV (c : Cli) (l : Int) (h : 0 ≤ vF c l) (h1 : l ≤ 1048576) : c.sm ∧ vF c l ≤ 1048576 := by
 unfold vF at h ⊢
 by_cases ha : jV c.ws l < 0
 · rw [if_pos ha] at h; omega
 rw [if_neg ha] at h ⊢
 obtain ⟨k1, k2, k3⟩ := aIE (by omega : 0 ≤ jV c.ws l) h1
 by_cases hn : szL eSz c.mp (jV c.ws l) < 0
 · rw [if_pos hn] at h; omega
 rw [if_neg hn] at h ⊢
 obtain ⟨j1, j2, _⟩ := aAa h
 exact ⟨⟨k1, k2, by omega⟩, by omega⟩
theorem aGC (c : Wat) (l : Int) (h : 0 ≤ szW c l) (h1 : l ≤ 1048576) : c.queue.length ≤ 1048576 ∧ szW c l ≤ 1048576 := by
 obtain ⟨k1, k2, k3⟩ := aRG h
 exact ⟨by omega, by omega⟩
theorem aKi (c : Mom) (l : Int) (h : 0 ≤ szM c l) (h1 : l ≤ 1048576) : c.sm ∧ szM c l ≤ 1048576 := by
 obtain ⟨k1, k2, k3, k4⟩ := aQ7 h h1
 exact ⟨⟨k2, k3, k4⟩, k1⟩
abbrev aFI : Cli := ⟨[], 0, 0, 0, 0, 0, 0, 0, []⟩
abbrev aEw : Mom := ⟨0, 0, 0, ⟨0, 0, eB, eB, []⟩, ⟨0, 0, 0, [], []⟩⟩
abbrev aFL : Wat := ⟨eB, 0, []⟩
def zf (B : Bas) (cs : List Cli) (wt : List Wat) (ms : List Mom) (sp : Int) : AV := .agg [uh B, .lst 9 (cs.map cliA), .lst 3 (wt.map watA), .lst 13 (ms.map momA), .v (.int .i64 sp)]
def aFs (B : Bas) (cs : List Cli) (wt : List Wat) (ms : List Mom) (l : Int) : Int :=
 if szB B l < 0 then -1 else if szV vF cs (szB B l) < 0 then -1 else if szV szW wt (szV vF cs (szB B l)) < 0 then -1 else if szV szM ms (szV szW wt (szV vF cs (szB B l))) < 0 then -1 else szV szM ms (szV szW wt (szV vF cs (szB B l)))
theorem aPl {B : Bas} {cs : List Cli} {wt : List Wat} {ms : List Mom} {l : Int} (h : 0 ≤ aFs B cs wt ms l) (h1 : l ≤ 1048576) :
 (B.store.length ≤ 1048576 ∧ wF 1048576 B.store ∧ B.refs.length ≤ 1048576) ∧ (cs.length ≤ 1048576 ∧ ∀ c ∈ cs, c.sm) ∧ (wt.length ≤ 1048576 ∧ ∀ w ∈ wt, w.queue.length ≤ 1048576) ∧ ms.length ≤ 1048576 ∧ ∀ m ∈ ms, m.sm := by
 unfold aFs at h
 split at h
 · omega
 rename_i n1
 obtain ⟨k1, k2, k3, k4⟩ := aMt (by omega : 0 ≤ szB B l) h1
 split at h
 · omega
 rename_i n2
 obtain ⟨j1, j2, j3⟩ := aBF aEV (by omega : 0 ≤ szV vF cs (szB B l)) k1
 split at h
 · omega
 rename_i n3
 obtain ⟨i1, i2, i3⟩ := aBF aGC (by omega : 0 ≤ szV szW wt (szV vF cs (szB B l))) j3
 split at h
 · omega
 obtain ⟨o1, o2, _⟩ := aBF aKi h i3
 exact ⟨⟨k2, k3, k4⟩, ⟨j1, j2⟩, ⟨i1, i2⟩, o1, o2⟩
attribute [local irreducible] xM xN xW yF yL Pre ACG
theorem aDo {c : Cli} {l : Int} (hc : c.ok) (h0 : 0 ≤ l) (h1 : l ≤ 1048576) : AC Tryz.prog 29 [cliA c, .v (.int .i64 l)] ⟨.v (.int .i64 (vF c l)), []⟩ := by
 obtain ⟨q1, q2, q3, q4⟩ := hc
 have z1 := aLe q1 q2 h0 h1
 unfold vF
 by_cases ha : jV c.ws l < 0
 · rw [if_pos ha]
   refine qrf Tryz.func29 Tryz.ntmps29 Tryz.results29 ?_; conv => whnf
   repeat ((first | refine qz ?_ | refine qc (z1) ?_ | refine qst ?_); conv => whnf)
   exact xA rfl trivial
 rw [if_neg ha]
 obtain ⟨_, _, k3⟩ := aIE (by omega : 0 ≤ jV c.ws l) h1
 have z2 := aAZ q3 q4 (l := jV c.ws l) (by omega) k3
 by_cases hn : szL eSz c.mp (jV c.ws l) < 0
 · rw [if_pos hn]
   refine qrf Tryz.func29 Tryz.ntmps29 Tryz.results29 ?_; conv => whnf
   repeat ((first | refine qz ?_ | refine qc (z1) ?_ | refine qc (z2) ?_ | refine qst ?_); conv => whnf)
   exact xA rfl trivial
 · rw [if_neg hn]
   refine qrf Tryz.func29 Tryz.ntmps29 Tryz.results29 ?_; conv => whnf
   repeat ((first | refine qz ?_ | refine qc (z1) ?_ | refine qc (z2) ?_ | refine qst ?_); conv => whnf)
   exact xA rfl trivial
theorem aJ6 {c : Cli} (hc : c.sm) : AC Tryz.prog 40 [cliA c] ⟨cliA c, []⟩ := by
 obtain ⟨q1, q2, q3⟩ := hc
 have t1 := aJq q1 q2
 have t2 := aBm q3
 refine qrf Tryz.func40 Tryz.ntmps40 Tryz.results40 ?_; conv => whnf
 repeat ((first | refine qz ?_ | refine qc (t1) ?_ | refine qc (t2) ?_ | refine qr (wQ rfl rfl rfl rfl rfl rfl rfl rfl) ?_ | refine qst ?_); conv => whnf)
 exact uX (x := cliA c) rfl rfl rfl rfl trivial
theorem aJi {c : Cli} (h1 : c.ws.length ≤ maxLen) (h2 : ∀ w ∈ c.ws, w.edits.length ≤ maxLen) (h3 : c.mp.length ≤ maxLen) : AC Tryz.prog 50 [cliA c, cliA c] ⟨.v (.bool true), []⟩ := by
 have e1 := aLy h1 h2
 have e2 := aBo (es := c.mp) (es' := c.mp) h3 h3
 rw [decide_eq_true rfl] at e2
 refine qrf Tryz.func50 Tryz.ntmps50 Tryz.results50 ?_; conv => whnf
 repeat ((first | refine qp (xB (kT rfl) rfl rfl rfl) ?_ | refine qz ?_ | refine qc (e1) ?_ | refine qc (e2) ?_); conv => whnf)
 exact xA rfl trivial
theorem aJB {es : List Cli} {l : Int} (hm : es.length ≤ maxLen) (hc : ∀ c ∈ es, c.ok) (h0 : 0 ≤ l) (h1 : l ≤ 1048576) : AC Tryz.prog 10 [.lst 9 (es.map cliA), .v (.int .i64 l)] ⟨.v (.int .i64 (szV vF es l)), []⟩ := by
 unfold maxLen at hm
 by_cases hn : l - es.length < 0
 · rw [szV, if_pos hn]
   refine qrf Tryz.func10 Tryz.ntmps10 Tryz.results10 ?_; conv => whnf
   repeat ((refine qz ?_; conv => whnf))
   exact xA rfl trivial
 · rw [szV, if_neg hn]
   refine qrf Tryz.func10 Tryz.ntmps10 Tryz.results10 ?_; conv => whnf
   repeat ((refine qz ?_; conv => whnf))
   refine xX (ι := { p : Nat × Int // p.1 ≤ es.length ∧ 0 ≤ p.2 ∧ p.2 ≤ 1048576 ∧ szG vF (es.drop p.1) p.2 = szG vF es (l - es.length) }) (fun p => ⟨[(0, .lst 9 (es.map cliA)), (1, .v (.int .i64 p.1.2)), (5, .v (.int .i64 (p.1.1 : Int)))], []⟩) (fun p => es.length - p.1.1) ⟨(0, l - es.length), by simp, by omega, by omega, rfl⟩ (by exact qle) ?_
   rintro ⟨⟨k, cur⟩, hkl, hc0, hc1, hsz⟩
   simp only at hkl hc0 hc1 hsz ⊢
   conv => whnf
   by_cases hlt : k < es.length
   · have hd := aEZ (g := vF) (l := cur) hlt
     rw [hsz] at hd
     have q1 := hc _ (List.getElem_mem hlt)
     by_cases hneg : vF es[k] cur < 0
     · rw [if_pos hneg] at hd
       rw [hd]
       repeat ((first | refine qz ?_ | refine qc (aDo q1 hc0 (by omega)) ?_); conv => whnf)
       exact xA rfl trivial
     · rw [if_neg hneg] at hd
       have hle := (aEV es[k] cur (by omega) (by omega)).2
       repeat ((first | refine qz ?_ | refine qc (aDo q1 hc0 (by omega)) ?_); conv => whnf)
       exact ⟨⟨(k + 1, vF es[k] cur), by simp; omega, by omega, by omega, hd.symm⟩, by exact qle, by simp; omega⟩
   · have hkk : k = es.length := by omega
     rw [hkk, List.drop_length] at hsz
     rw [← hsz]
     repeat ((refine qz ?_; conv => whnf))
     exact xA rfl trivial
theorem aHk {l : List Cli} (hm : l.length ≤ 1048576) (hc : ∀ c ∈ l, c.sm) : AC Tryz.prog 16 [.lst 9 (l.map cliA)] ⟨.own 0, [⟨53, 9, l.map cliA⟩]⟩ := by
 refine qrf Tryz.func16 Tryz.ntmps16 Tryz.results16 ?_; conv => whnf
 repeat (first | (refine qz ?_; conv => whnf) | (refine aCs (jF (n := l.length) (by omega) (by omega) (by simp; rfl) (by simp; rfl) rfl rfl) rfl rfl (fun e => by cases e) (Gh.give 8 rfl (.inr rfl) rfl (Gh.done ?_)); conv => whnf))
 have hrow : List.replicate l.length (cliA aFI) = (l.take 0 ++ List.replicate (l.length - 0) aFI).map cliA := by simp
 refine xX (ι := { k : Nat // k ≤ l.length }) (fun k => ⟨[(0, .lst 9 (l.map cliA)), (3, .own 8), (4, .v (.int .i64 (k.1 : Int)))], [(8, ⟨53, 9, (l.take k.1 ++ List.replicate (l.length - k.1) aFI).map cliA⟩)]⟩) (fun k => l.length - k.1) ⟨0, Nat.zero_le _⟩ ⟨⟨congrArg (fun x => some (OB.mk _ _ x)) hrow, trivial⟩, .inl ⟨rfl, rfl⟩, .inl ⟨rfl, rfl⟩, .inl ⟨rfl, rfl⟩, trivial⟩ ?_
 rintro ⟨k, hk⟩
 dsimp only
 conv => whnf
 by_cases hlt : k < l.length
 · have q1 := hc _ (List.getElem_mem hlt)
   have hlt2 : k < (l.take k ++ List.replicate (l.length - k) aFI).length := by simp; omega
   have hset := congrArg (List.map cliA) (wR l aFI k hlt)
   rw [List.map_set] at hset
   repeat ((first | refine qz ?_ | refine qc (aJ6 q1) ?_ | refine qp (uK (by simpa using hlt2) rfl rfl rfl rfl rfl) ?_ | refine qr (xS (jh _ hlt2) rfl rfl rfl rfl rfl rfl) ?_); conv => whnf)
   exact ⟨⟨k + 1, hlt⟩, ⟨⟨congrArg (fun x => some (OB.mk _ _ x)) hset, trivial⟩, .inl ⟨rfl, rfl⟩, .inl ⟨rfl, rfl⟩, .inl ⟨rfl, rfl⟩, trivial⟩, by simp; omega⟩
 · have hkk : k = l.length := by omega
   subst hkk
   repeat ((refine qz ?_; conv => whnf))
   exact kD rfl (by show some (OB.mk _ _ _) = _; rw [List.take_length, Nat.sub_self, List.replicate_zero, List.append_nil])
theorem aJ4 {es : List Wat} {l : Int} (hm : es.length ≤ maxLen) (hc : ∀ c ∈ es, c.ok maxLen) (h0 : 0 ≤ l) (h1 : l ≤ 1048576) : AC Tryz.prog 11 [.lst 3 (es.map watA), .v (.int .i64 l)] ⟨.v (.int .i64 (szV szW es l)), []⟩ := by
 unfold maxLen at hm
 by_cases hn : l - es.length < 0
 · rw [szV, if_pos hn]
   refine qrf Tryz.func11 Tryz.ntmps11 Tryz.results11 ?_; conv => whnf
   repeat ((refine qz ?_; conv => whnf))
   exact xA rfl trivial
 · rw [szV, if_neg hn]
   refine qrf Tryz.func11 Tryz.ntmps11 Tryz.results11 ?_; conv => whnf
   repeat ((refine qz ?_; conv => whnf))
   refine xX (ι := { p : Nat × Int // p.1 ≤ es.length ∧ 0 ≤ p.2 ∧ p.2 ≤ 1048576 ∧ szG szW (es.drop p.1) p.2 = szG szW es (l - es.length) }) (fun p => ⟨[(0, .lst 3 (es.map watA)), (1, .v (.int .i64 p.1.2)), (5, .v (.int .i64 (p.1.1 : Int)))], []⟩) (fun p => es.length - p.1.1) ⟨(0, l - es.length), by simp, by omega, by omega, rfl⟩ (by exact qle) ?_
   rintro ⟨⟨k, cur⟩, hkl, hc0, hc1, hsz⟩
   simp only at hkl hc0 hc1 hsz ⊢
   conv => whnf
   by_cases hlt : k < es.length
   · have hd := aEZ (g := szW) (l := cur) hlt
     rw [hsz] at hd
     have q1 := hc _ (List.getElem_mem hlt)
     by_cases hneg : szW es[k] cur < 0
     · rw [if_pos hneg] at hd
       rw [hd]
       repeat ((first | refine qz ?_ | refine qc (aFd q1 hc0 (by omega)) ?_); conv => whnf)
       exact xA rfl trivial
     · rw [if_neg hneg] at hd
       have hle := (aGC es[k] cur (by omega) (by omega)).2
       repeat ((first | refine qz ?_ | refine qc (aFd q1 hc0 (by omega)) ?_); conv => whnf)
       exact ⟨⟨(k + 1, szW es[k] cur), by simp; omega, by omega, by omega, hd.symm⟩, by exact qle, by simp; omega⟩
   · have hkk : k = es.length := by omega
     rw [hkk, List.drop_length] at hsz
     rw [← hsz]
     repeat ((refine qz ?_; conv => whnf))
     exact xA rfl trivial
theorem aJt {l : List Wat} (hm : l.length ≤ 1048576) (hc : ∀ c ∈ l, c.queue.length ≤ 1048576) : AC Tryz.prog 17 [.lst 3 (l.map watA)] ⟨.own 0, [⟨88, 3, l.map watA⟩]⟩ := by
 refine qrf Tryz.func17 Tryz.ntmps17 Tryz.results17 ?_; conv => whnf
 repeat (first | (refine qz ?_; conv => whnf) | (refine aCs (jF (n := l.length) (by omega) (by omega) (by simp; rfl) (by simp; rfl) rfl rfl) rfl rfl (fun e => by cases e) (Gh.give 8 rfl (.inr rfl) rfl (Gh.done ?_)); conv => whnf))
 have hrow : List.replicate l.length (watA aFL) = (l.take 0 ++ List.replicate (l.length - 0) aFL).map watA := by simp
 refine xX (ι := { k : Nat // k ≤ l.length }) (fun k => ⟨[(0, .lst 3 (l.map watA)), (3, .own 8), (4, .v (.int .i64 (k.1 : Int)))], [(8, ⟨88, 3, (l.take k.1 ++ List.replicate (l.length - k.1) aFL).map watA⟩)]⟩) (fun k => l.length - k.1) ⟨0, Nat.zero_le _⟩ ⟨⟨congrArg (fun x => some (OB.mk _ _ x)) hrow, trivial⟩, .inl ⟨rfl, rfl⟩, .inl ⟨rfl, rfl⟩, .inl ⟨rfl, rfl⟩, trivial⟩ ?_
 rintro ⟨k, hk⟩
 dsimp only
 conv => whnf
 by_cases hlt : k < l.length
 · have q1 := hc _ (List.getElem_mem hlt)
   have hlt2 : k < (l.take k ++ List.replicate (l.length - k) aFL).length := by simp; omega
   have hset := congrArg (List.map watA) (wR l aFL k hlt)
   rw [List.map_set] at hset
   repeat ((first | refine qz ?_ | refine qc (aMB q1) ?_ | refine qp (uK (by simpa using hlt2) rfl rfl rfl rfl rfl) ?_ | refine qr (xS (jh _ hlt2) rfl rfl rfl rfl rfl rfl) ?_); conv => whnf)
   exact ⟨⟨k + 1, hlt⟩, ⟨⟨congrArg (fun x => some (OB.mk _ _ x)) hset, trivial⟩, .inl ⟨rfl, rfl⟩, .inl ⟨rfl, rfl⟩, .inl ⟨rfl, rfl⟩, trivial⟩, by simp; omega⟩
 · have hkk : k = l.length := by omega
   subst hkk
   repeat ((refine qz ?_; conv => whnf))
   exact kD rfl (by show some (OB.mk _ _ _) = _; rw [List.take_length, Nat.sub_self, List.replicate_zero, List.append_nil])
theorem aJD {es : List Mom} {l : Int} (hm : es.length ≤ maxLen) (hc : ∀ c ∈ es, c.ok) (h0 : 0 ≤ l) (h1 : l ≤ 1048576) : AC Tryz.prog 12 [.lst 13 (es.map momA), .v (.int .i64 l)] ⟨.v (.int .i64 (szV szM es l)), []⟩ := by
 unfold maxLen at hm
 by_cases hn : l - es.length < 0
 · rw [szV, if_pos hn]
   refine qrf Tryz.func12 Tryz.ntmps12 Tryz.results12 ?_; conv => whnf
   repeat ((refine qz ?_; conv => whnf))
   exact xA rfl trivial
 · rw [szV, if_neg hn]
   refine qrf Tryz.func12 Tryz.ntmps12 Tryz.results12 ?_; conv => whnf
   repeat ((refine qz ?_; conv => whnf))
   refine xX (ι := { p : Nat × Int // p.1 ≤ es.length ∧ 0 ≤ p.2 ∧ p.2 ≤ 1048576 ∧ szG szM (es.drop p.1) p.2 = szG szM es (l - es.length) }) (fun p => ⟨[(0, .lst 13 (es.map momA)), (1, .v (.int .i64 p.1.2)), (5, .v (.int .i64 (p.1.1 : Int)))], []⟩) (fun p => es.length - p.1.1) ⟨(0, l - es.length), by simp, by omega, by omega, rfl⟩ (by exact qle) ?_
   rintro ⟨⟨k, cur⟩, hkl, hc0, hc1, hsz⟩
   simp only at hkl hc0 hc1 hsz ⊢
   conv => whnf
   by_cases hlt : k < es.length
   · have hd := aEZ (g := szM) (l := cur) hlt
     rw [hsz] at hd
     have q1 := hc _ (List.getElem_mem hlt)
     by_cases hneg : szM es[k] cur < 0
     · rw [if_pos hneg] at hd
       rw [hd]
       repeat ((first | refine qz ?_ | refine qc (aDw q1.1 q1.2 hc0 (by omega)) ?_); conv => whnf)
       exact xA rfl trivial
     · rw [if_neg hneg] at hd
       have hle := (aKi es[k] cur (by omega) (by omega)).2
       repeat ((first | refine qz ?_ | refine qc (aDw q1.1 q1.2 hc0 (by omega)) ?_); conv => whnf)
       exact ⟨⟨(k + 1, szM es[k] cur), by simp; omega, by omega, by omega, hd.symm⟩, by exact qle, by simp; omega⟩
   · have hkk : k = es.length := by omega
     rw [hkk, List.drop_length] at hsz
     rw [← hsz]
     repeat ((refine qz ?_; conv => whnf))
     exact xA rfl trivial
theorem aIk {l : List Mom} (hm : l.length ≤ 1048576) (hc : ∀ c ∈ l, c.sm) : AC Tryz.prog 18 [.lst 13 (l.map momA)] ⟨.own 0, [⟨98, 13, l.map momA⟩]⟩ := by
 refine qrf Tryz.func18 Tryz.ntmps18 Tryz.results18 ?_; conv => whnf
 repeat (first | (refine qz ?_; conv => whnf) | (refine aCs (jF (n := l.length) (by omega) (by omega) (by simp; rfl) (by simp; rfl) rfl rfl) rfl rfl (fun e => by cases e) (Gh.give 8 rfl (.inr rfl) rfl (Gh.done ?_)); conv => whnf))
 have hrow : List.replicate l.length (momA aEw) = (l.take 0 ++ List.replicate (l.length - 0) aEw).map momA := by simp
 refine xX (ι := { k : Nat // k ≤ l.length }) (fun k => ⟨[(0, .lst 13 (l.map momA)), (3, .own 8), (4, .v (.int .i64 (k.1 : Int)))], [(8, ⟨98, 13, (l.take k.1 ++ List.replicate (l.length - k.1) aEw).map momA⟩)]⟩) (fun k => l.length - k.1) ⟨0, Nat.zero_le _⟩ ⟨⟨congrArg (fun x => some (OB.mk _ _ x)) hrow, trivial⟩, .inl ⟨rfl, rfl⟩, .inl ⟨rfl, rfl⟩, .inl ⟨rfl, rfl⟩, trivial⟩ ?_
 rintro ⟨k, hk⟩
 dsimp only
 conv => whnf
 by_cases hlt : k < l.length
 · have q1 := hc _ (List.getElem_mem hlt)
   have hlt2 : k < (l.take k ++ List.replicate (l.length - k) aEw).length := by simp; omega
   have hset := congrArg (List.map momA) (wR l aEw k hlt)
   rw [List.map_set] at hset
   repeat ((first | refine qz ?_ | refine qc (aJL q1.1 q1.2.1 q1.2.2) ?_ | refine qp (uK (by simpa using hlt2) rfl rfl rfl rfl rfl) ?_ | refine qr (xS (jh _ hlt2) rfl rfl rfl rfl rfl rfl) ?_); conv => whnf)
   exact ⟨⟨k + 1, hlt⟩, ⟨⟨congrArg (fun x => some (OB.mk _ _ x)) hset, trivial⟩, .inl ⟨rfl, rfl⟩, .inl ⟨rfl, rfl⟩, .inl ⟨rfl, rfl⟩, trivial⟩, by simp; omega⟩
 · have hkk : k = l.length := by omega
   subst hkk
   repeat ((refine qz ?_; conv => whnf))
   exact kD rfl (by show some (OB.mk _ _ _) = _; rw [List.take_length, Nat.sub_self, List.replicate_zero, List.append_nil])
theorem aMS {l : List Cli} (hm : l.length ≤ maxLen) (hc : ∀ c ∈ l, c.ws.length ≤ maxLen ∧ (∀ w ∈ c.ws, w.edits.length ≤ maxLen) ∧ c.mp.length ≤ maxLen) : AC Tryz.prog 24 [.lst 9 (l.map cliA), .lst 9 (l.map cliA)] ⟨.v (.bool true), []⟩ := by
 unfold maxLen at hm
 refine qrf Tryz.func24 Tryz.ntmps24 Tryz.results24 ?_; conv => whnf
 repeat ((refine qz ?_; conv => whnf))
 refine xX (ι := { k : Nat // k ≤ l.length }) (fun k => ⟨[(0, .lst 9 (l.map cliA)), (1, .lst 9 (l.map cliA)), (5, .v (.int .i64 (k.1 : Int)))], []⟩) (fun k => l.length - k.1) ⟨0, Nat.zero_le _⟩ (by exact qle) ?_
 rintro ⟨k, hk⟩
 dsimp only
 conv => whnf
 by_cases hlt : k < l.length
 · have q1 := hc _ (List.getElem_mem hlt)
   repeat ((refine qz ?_; conv => whnf))
   refine .inl ⟨by kernel_rfl, ?_⟩
   conv => whnf
   repeat ((first | refine qz ?_ | refine qc (aJi q1.1 q1.2.1 q1.2.2) ?_); conv => whnf)
   exact ⟨⟨k + 1, hlt⟩, by exact qle, by simp; omega⟩
 · repeat ((refine qz ?_; conv => whnf))
   exact xA rfl trivial
theorem aII {l : List Mom} (hm : l.length ≤ maxLen) (hc : ∀ c ∈ l, c.op.edits.length ≤ maxLen ∧ c.res.keys.length ≤ maxLen ∧ c.res.map.length ≤ maxLen) : AC Tryz.prog 26 [.lst 13 (l.map momA), .lst 13 (l.map momA)] ⟨.v (.bool true), []⟩ := by
 unfold maxLen at hm
 refine qrf Tryz.func26 Tryz.ntmps26 Tryz.results26 ?_; conv => whnf
 repeat ((refine qz ?_; conv => whnf))
 refine xX (ι := { k : Nat // k ≤ l.length }) (fun k => ⟨[(0, .lst 13 (l.map momA)), (1, .lst 13 (l.map momA)), (5, .v (.int .i64 (k.1 : Int)))], []⟩) (fun k => l.length - k.1) ⟨0, Nat.zero_le _⟩ (by exact qle) ?_
 rintro ⟨k, hk⟩
 dsimp only
 conv => whnf
 by_cases hlt : k < l.length
 · have q1 := hc _ (List.getElem_mem hlt)
   repeat ((refine qz ?_; conv => whnf))
   refine .inl ⟨by kernel_rfl, ?_⟩
   conv => whnf
   repeat ((first | refine qz ?_ | refine qc (aJV q1.1 q1.2.1 q1.2.2) ?_); conv => whnf)
   exact ⟨⟨k + 1, hlt⟩, by exact qle, by simp; omega⟩
 · repeat ((refine qz ?_; conv => whnf))
   exact xA rfl trivial
section
variable {B : Bas} {cs : List Cli} {wt : List Wat} {ms : List Mom} {sp : Int}
theorem aLH {l : Int} (hB : B.ok maxLen) (hcm : cs.length ≤ maxLen) (hc : ∀ c ∈ cs, c.ok) (hwm : wt.length ≤ maxLen) (hw : ∀ w ∈ wt, w.ok maxLen) (hmm : ms.length ≤ maxLen) (hms : ∀ m ∈ ms, m.ok) (h0 : 0 ≤ l) (h1 : l ≤ 1048576) : AC Tryz.prog 4 [zf B cs wt ms sp, .v (.int .i64 l)] ⟨.v (.int .i64 (aFs B cs wt ms l)), []⟩ := by
 have z1 := aNB (l := l) hB h0 h1
 unfold aFs
 by_cases n1 : szB B l < 0
 · rw [if_pos n1]
   refine qrf Tryz.func4 Tryz.ntmps4 Tryz.results4 ?_; conv => whnf
   repeat ((first | refine qz ?_ | refine qc (z1) ?_ | refine qst ?_); conv => whnf)
   exact xA rfl trivial
 rw [if_neg n1]
 obtain ⟨k1, k2, k3, k4⟩ := aMt (by omega : 0 ≤ szB B l) h1
 have z2 := aJB (l := szB B l) hcm hc (by omega) k1
 by_cases n2 : szV vF cs (szB B l) < 0
 · rw [if_pos n2]
   refine qrf Tryz.func4 Tryz.ntmps4 Tryz.results4 ?_; conv => whnf
   repeat ((first | refine qz ?_ | refine qc (z1) ?_ | refine qc (z2) ?_ | refine qst ?_); conv => whnf)
   exact xA rfl trivial
 rw [if_neg n2]
 obtain ⟨j1, j2, j3⟩ := aBF aEV (by omega : 0 ≤ szV vF cs (szB B l)) k1
 have z3 := aJ4 (l := szV vF cs (szB B l)) hwm hw (by omega) j3
 by_cases n3 : szV szW wt (szV vF cs (szB B l)) < 0
 · rw [if_pos n3]
   refine qrf Tryz.func4 Tryz.ntmps4 Tryz.results4 ?_; conv => whnf
   repeat ((first | refine qz ?_ | refine qc (z1) ?_ | refine qc (z2) ?_ | refine qc (z3) ?_ | refine qst ?_); conv => whnf)
   exact xA rfl trivial
 rw [if_neg n3]
 obtain ⟨i1, i2, i3⟩ := aBF aGC (by omega : 0 ≤ szV szW wt (szV vF cs (szB B l))) j3
 have z4 := aJD (l := szV szW wt (szV vF cs (szB B l))) hmm hms (by omega) i3
 by_cases n4 : szV szM ms (szV szW wt (szV vF cs (szB B l))) < 0
 · rw [if_pos n4]
   refine qrf Tryz.func4 Tryz.ntmps4 Tryz.results4 ?_; conv => whnf
   repeat ((first | refine qz ?_ | refine qc (z1) ?_ | refine qc (z2) ?_ | refine qc (z3) ?_ | refine qc (z4) ?_ | refine qst ?_); conv => whnf)
   exact xA rfl trivial
 · rw [if_neg n4]
   refine qrf Tryz.func4 Tryz.ntmps4 Tryz.results4 ?_; conv => whnf
   repeat ((first | refine qz ?_ | refine qc (z1) ?_ | refine qc (z2) ?_ | refine qc (z3) ?_ | refine qc (z4) ?_ | refine qst ?_); conv => whnf)
   exact xA rfl trivial
theorem aLK (hb : B.store.length ≤ 1048576 ∧ wF 1048576 B.store ∧ B.refs.length ≤ 1048576) (hc : cs.length ≤ 1048576 ∧ ∀ c ∈ cs, c.sm) (hw : wt.length ≤ 1048576 ∧ ∀ w ∈ wt, w.queue.length ≤ 1048576) (hm : ms.length ≤ 1048576 ∧ ∀ m ∈ ms, m.sm) : AC Tryz.prog 6 [zf B cs wt ms sp] ⟨zf B cs wt ms sp, []⟩ := by
 have t1 := aNM hb.1 hb.2.1 hb.2.2
 have t2 := aHk hc.1 hc.2
 have t3 := aJt hw.1 hw.2
 have t4 := aIk hm.1 hm.2
 refine qrf Tryz.func6 Tryz.ntmps6 Tryz.results6 ?_; conv => whnf
 repeat ((first | refine qz ?_ | refine qc (t1) ?_ | refine qc (t2) ?_ | refine qc (t3) ?_ | refine qc (t4) ?_ | refine qr (wQ rfl rfl rfl rfl rfl rfl rfl rfl) ?_ | refine qst ?_); conv => whnf)
 exact uX (x := zf B cs wt ms sp) rfl rfl rfl rfl trivial
theorem aLZ (hB : B.ok maxLen) (hcm : cs.length ≤ maxLen) (hc : ∀ c ∈ cs, c.ws.length ≤ maxLen ∧ (∀ w ∈ c.ws, w.edits.length ≤ maxLen) ∧ c.mp.length ≤ maxLen) (hwm : wt.length ≤ maxLen) (hw : ∀ w ∈ wt, w.queue.length ≤ maxLen) (hmm : ms.length ≤ maxLen) (hms : ∀ c ∈ ms, c.op.edits.length ≤ maxLen ∧ c.res.keys.length ≤ maxLen ∧ c.res.map.length ≤ maxLen) : AC Tryz.prog 8 [zf B cs wt ms sp, zf B cs wt ms sp] ⟨.v (.bool true), []⟩ := by
 have e1 := aNU hB
 have e2 := aMS hcm hc
 have e3 := aJ3 hwm hw
 have e4 := aII hmm hms
 refine qrf Tryz.func8 Tryz.ntmps8 Tryz.results8 ?_; conv => whnf
 repeat ((first | refine qp (xB (kT rfl) rfl rfl rfl) ?_ | refine qz ?_ | refine qc (e1) ?_ | refine qc (e2) ?_ | refine qc (e3) ?_ | refine qc (e4) ?_); conv => whnf)
 exact xA rfl trivial
theorem aHf (hB : B.ok maxLen) (hcm : cs.length ≤ maxLen) (hc : ∀ c ∈ cs, c.ok) (hwm : wt.length ≤ maxLen) (hw : ∀ w ∈ wt, w.ok maxLen) (hmm : ms.length ≤ maxLen) (hms : ∀ m ∈ ms, m.ok)
 (hS : (B.store.length ≤ 1048576 ∧ wF 1048576 B.store ∧ B.refs.length ≤ 1048576) → (cs.length ≤ 1048576 ∧ ∀ c ∈ cs, c.sm) → (wt.length ≤ 1048576 ∧ ∀ w ∈ wt, w.queue.length ≤ 1048576) → (ms.length ≤ 1048576 ∧ ∀ m ∈ ms, m.sm) →
  ∃ b, AC Tryz.prog 5 [zf B cs wt ms sp] ⟨.v (.bool b), []⟩ ∧ AC Tryz.prog 7 [zf B cs wt ms sp] ⟨.v (.bool b), []⟩) :
 AC Tryz.prog 3 [zf B cs wt ms sp] ⟨.v (.bool true), []⟩ := by
 have z1 := aLH (B := B) (sp := sp) (l := 1048576) hB hcm hc hwm hw hmm hms (by omega) (by omega)
 by_cases n1 : aFs B cs wt ms 1048576 < 0
 · refine qrf Tryz.func3 Tryz.ntmps3 Tryz.results3 ?_; conv => whnf
   repeat ((first | refine qz ?_ | refine qc (z1) ?_ | refine qst ?_); conv => whnf)
   exact xA rfl trivial
 obtain ⟨y1, y2, y3, y4⟩ := aPl (by omega : 0 ≤ aFs B cs wt ms 1048576) (by omega)
 obtain ⟨b, h1, h2⟩ := hS y1 y2 y3 y4
 have t1 := aLK (B := B) (sp := sp) y1 y2 y3 y4
 have e1 := aLZ (B := B) (sp := sp) hB hcm (fun c h => ⟨(hc c h).1, fun w hw => ((hc c h).2.1 w hw).2.2.2.1, (hc c h).2.2.1⟩) hwm (fun w h => (hw w h).2) hmm (fun m h => ⟨(hms m h).1.2.2.1, (hms m h).2.1, (hms m h).2.2.2.1⟩)
 cases b
 all_goals
  refine qrf Tryz.func3 Tryz.ntmps3 Tryz.results3 ?_; conv => whnf
  repeat ((first | refine qz ?_ | refine qc (z1) ?_ | refine qc (t1) ?_ | refine qc (h1) ?_ | refine qc (h2) ?_ | refine qc (e1) ?_ | refine qst ?_ | refine qdr ?_ | refine qp (xB (jb Tryz.underlying4) rfl rfl rfl) ?_); conv => whnf)
  exact xA rfl trivial
end
def Par (cs : List Cmt) (q p : Nat) : Prop := ∃ h : q - 1 < cs.length, 1 ≤ q ∧ (p : Int) ∈ (cs[q - 1]).1
inductive Anc (cs : List Cmt) (b : Nat) : Nat → Prop
 | refl : Anc cs b b
 | up {q p : Nat} : Anc cs b q → Par cs q p → Anc cs b p
theorem Anc.iff {cs : List Cmt} {b a : Nat} : Anc cs b a ↔ a = b ∨ ∃ q, Anc cs b q ∧ Par cs q a :=
 ⟨fun h => by cases h with
  | refl => exact .inl rfl
  | up h1 h2 => exact .inr ⟨_, h1, h2⟩, fun h => by
  rcases h with rfl | ⟨q, h1, h2⟩
  · exact .refl
  · exact .up h1 h2⟩
theorem aES : ∀ {cs : List Cmt} {n : Nat}, jR n cs = true → ∀ i (h : i < cs.length), aBL (n + i) cs[i] = true
 | [], n, _, i, h => by simp at h
 | c :: cs, n, hb, 0, h => by
  unfold jR at hb
  simp only [Bool.and_eq_true] at hb
  exact hb.1
 | c :: cs, n, hb, i + 1, h => by
  unfold jR at hb
  simp only [Bool.and_eq_true] at hb
  have := aES hb.2 i (by simpa using h)
  simpa [Nat.add_assoc, Nat.add_comm 1 i] using this
theorem aAG {cs : List Cmt} (hb : yx cs = true) {i : Nat} (h : i < cs.length) : aHW i (cs[i]).1 := by
 unfold yx at hb
 simp only [Bool.and_eq_true] at hb
 have := aES hb.2 i h
 unfold aBL at this
 simp only [Bool.and_eq_true] at this
 have h2 := this.2
 rw [Nat.zero_add] at h2
 unfold aAj at h2
 simpa using h2
theorem vX {cs : List Cmt} (hb : yx cs = true) : 1 ≤ cs.length ∧ cs.length ≤ 60 := by
 unfold yx at hb
 simp only [Bool.and_eq_true, decide_eq_true_eq] at hb
 exact hb.1
theorem Par.lt {cs : List Cmt} (hb : yx cs = true) {q p : Nat} (h : Par cs q p) : 1 ≤ p ∧ p < q ∧ q ≤ cs.length := by
 obtain ⟨h1, h2, h3⟩ := h
 obtain ⟨_, _, k⟩ := aAG hb h1
 obtain ⟨i, hi, e⟩ := List.getElem_of_mem h3
 obtain ⟨_, k1, k2, _⟩ := k i hi
 rw [e] at k1 k2
 exact ⟨by omega, by omega, by omega⟩
theorem Anc.le {cs : List Cmt} (hb : yx cs = true) {b a : Nat} (h : Anc cs b a) (h1 : 1 ≤ b) : 1 ≤ a ∧ a ≤ b := by
 induction h with
 | refl => exact ⟨h1, Nat.le_refl _⟩
 | up _ hp ih => have := hp.lt hb; omega
end Go.Proofs.YtkfllfhcjegfoaaGreatDoor.AM
namespace Go.Proofs.YtkfllfhcjegfoaaGreatDoor.AM
open Go Go.RowKit
def bA (b : Bool) : AV := .v (.bool b)
def rng (m : Nat) (f : Nat → Bool) : List AV := ((List.range m).map f).map bA
theorem aAM {m : Nat} {f : Nat → Bool} : (rng m f).length = m := by simp [rng]
theorem jP {m j : Nat} {f : Nat → Bool} (h : j < m) : (rng m f)[j]? = some (bA (f j)) := by simp [rng, h]
theorem aGM {m j : Nat} {f : Nat → Bool} (h : j < m) : (rng m f).set j (bA true) = rng m (fun x => f x || decide (x = j)) := by
 unfold rng
 apply List.ext_getElem
 · simp
 · intro i h1 h2
   rw [List.getElem_set]
   split
   · rename_i e; subst e; simp
   · rename_i e; simp [Ne.symm e]
theorem aK2 {m : Nat} : List.replicate m (AV.v (.bool false)) = rng m (fun _ => false) := by
 unfold rng
 apply List.ext_getElem
 · simp
 · intro i h1 h2; simp [bA]
theorem aFo {m : Nat} {f g : Nat → Bool} (h : ∀ j, j < m → f j = g j) : rng m f = rng m g := by
 unfold rng
 congr 1
 apply List.map_congr_left
 intro j hj; exact h j (List.mem_range.1 hj)
open Classical in
noncomputable def uS (cs : List Cmt) (b a : Nat) : Bool := decide (Anc cs b a)
theorem aFD {cs : List Cmt} {b a : Nat} : uS cs b a = true ↔ Anc cs b a := by simp [uS]
def Stg (cs : List Cmt) (b i : Nat) (f : Nat → Bool) : Prop := ∀ j, f j = true ↔ (j = b ∨ ∃ q, i < q ∧ Anc cs b q ∧ Par cs q j)
theorem Stg.at {cs : List Cmt} (hb : yx cs = true) {b i : Nat} {f : Nat → Bool} (h : Stg cs b i f) : f i = true ↔ Anc cs b i := by
 rw [h i, Anc.iff]
 constructor
 · rintro (h | ⟨q, _, h1, h2⟩)
   · exact .inl h
   · exact .inr ⟨q, h1, h2⟩
 · rintro (h | ⟨q, h1, h2⟩)
   · exact .inl h
   · exact .inr ⟨q, by have := h2.lt hb; omega, h1, h2⟩
theorem Stg.end {cs : List Cmt} (hb : yx cs = true) {b : Nat} {f : Nat → Bool} (h : Stg cs b 0 f) : ∀ j, f j = uS cs b j := fun j => by
 have : f j = true ↔ uS cs b j = true := by
  rw [h j, aFD, Anc.iff]
  constructor
  · rintro (h | ⟨q, _, h1, h2⟩)
    · exact .inl h
    · exact .inr ⟨q, h1, h2⟩
  · rintro (h | ⟨q, h1, h2⟩)
    · exact .inl h
    · exact .inr ⟨q, by have := h2.lt hb; omega, h1, h2⟩
 cases h1 : f j <;> cases h2 : uS cs b j <;> simp_all
theorem Stg.skip {cs : List Cmt} (hb : yx cs = true) {b i : Nat} {f : Nat → Bool} (h : Stg cs b (i + 1) f) (hn : ¬ f (i + 1) = true) : Stg cs b i f := fun j => by
 rw [h j]
 constructor
 · rintro (h | ⟨q, h0, h1, h2⟩)
   · exact .inl h
   · exact .inr ⟨q, by omega, h1, h2⟩
 · rintro (h' | ⟨q, h0, h1, h2⟩)
   · exact .inl h'
   · rcases Nat.lt_or_ge (i + 1) q with h3 | h3
     · exact .inr ⟨q, h3, h1, h2⟩
     · have : q = i + 1 := by omega
       subst this
       exact absurd ((h.at hb).2 h1) hn
def Stp (cs : List Cmt) (b i : Nat) (ps : List Int) (k : Nat) (f : Nat → Bool) : Prop := ∀ j, f j = true ↔ (j = b ∨ (∃ q, i < q ∧ Anc cs b q ∧ Par cs q j) ∨ ∃ x ∈ ps.take k, x = (j : Int))
theorem Stp.zero {cs : List Cmt} {b i : Nat} {ps : List Int} {f : Nat → Bool} (h : Stg cs b i f) : Stp cs b i ps 0 f := fun j => by rw [h j]; simp
theorem Stp.next {cs : List Cmt} {b i k p : Nat} {ps : List Int} {f : Nat → Bool} (h : Stp cs b i ps k f) (hk : k < ps.length) (hp : ps[k] = (p : Int)) : Stp cs b i ps (k + 1) (fun x => f x || decide (x = p)) := fun j => by
 simp only [Bool.or_eq_true, decide_eq_true_eq]
 rw [h j, List.take_succ_eq_append_getElem hk]
 simp only [List.mem_append, List.mem_singleton]
 constructor
 · rintro ((h | h | ⟨x, h, e⟩) | h)
   · exact .inl h
   · exact .inr (.inl h)
   · exact .inr (.inr ⟨x, .inl h, e⟩)
   · exact .inr (.inr ⟨_, .inr rfl, by rw [hp, h]⟩)
 · rintro (h | h | ⟨x, h | h, e⟩)
   · exact .inl (.inl h)
   · exact .inl (.inr (.inl h))
   · exact .inl (.inr (.inr ⟨x, h, e⟩))
   · refine .inr ?_
     rw [h, hp] at e; omega
theorem Stp.done {cs : List Cmt} {b i : Nat} {f : Nat → Bool} (hi : i < cs.length) (h : Stp cs b (i + 1) (cs[i]).1 (cs[i]).1.length f) (ha : Anc cs b (i + 1)) : Stg cs b i f := fun j => by
 rw [h j, List.take_length]
 constructor
 · rintro (h | ⟨q, h0, h1, h2⟩ | ⟨x, h, e⟩)
   · exact .inl h
   · exact .inr ⟨q, by omega, h1, h2⟩
   · exact .inr ⟨i + 1, by omega, ha, ⟨by simpa using hi, by omega, by subst e; simpa using h⟩⟩
 · rintro (h' | ⟨q, h0, h1, h2⟩)
   · exact .inl h'
   · rcases Nat.lt_or_ge (i + 1) q with h3 | h3
     · exact .inr (.inl ⟨q, h3, h1, h2⟩)
     · have : q = i + 1 := by omega
       subst this
       obtain ⟨_, _, h4⟩ := h2
       exact .inr (.inr ⟨_, by simpa using h4, rfl⟩)
attribute [local irreducible] xM xN xW yF yL Pre ACG
theorem aDr {cs : List Cmt} {b : Nat} (hb : yx cs = true) (h1 : 1 ≤ b) (h2 : b ≤ cs.length) : AC Tryz.prog 163 [.lst 2 (cs.map yI), .v (.int .i64 (b : Int))] ⟨.own 0, [⟨4, 1, rng (cs.length + 1) (uS cs b)⟩]⟩ := by
 obtain ⟨hl1, hl2⟩ := vX hb
 have hrow : (List.replicate (cs.length + 1) (AV.v (.bool false))).set b (bA true) = rng (cs.length + 1) (fun x => decide (x = b)) := by
  rw [aK2, aGM (by omega)]; exact aFo (fun j _ => by simp)
 have hst0 : Stg cs b b (fun x => decide (x = b)) := fun j => by
  simp only [decide_eq_true_eq]
  constructor
  · exact .inl
  · rintro (h | ⟨q, h3, h4, _⟩)
    · exact h
    · have := h4.le hb h1; omega
 have hq0 : (List.replicate (cs.length + 1) (AV.v (.bool false)))[b]? = some (AV.v (.bool false)) := by
  rw [List.getElem?_replicate, if_pos (by omega)]
 refine qrf Tryz.func163 Tryz.ntmps163 Tryz.results163 ?_; conv => whnf
 repeat (first | (refine qz ?_; conv => whnf) | (refine qr (jF (n := cs.length + 1) (by omega) (by omega) rfl rfl rfl rfl) ?_; conv => whnf) | (refine qp (uK (j := b) (by simp; omega) rfl rfl rfl rfl rfl) ?_; conv => whnf) | (refine qr (xS hq0 rfl rfl rfl rfl rfl rfl) ?_; conv => whnf))
 refine xX (ι := { p : Nat × (Nat → Bool) // p.1 ≤ cs.length ∧ Stg cs b p.1 p.2 }) (fun p => ⟨[(0, .lst 2 (cs.map yI)), (5, .own 12), (6, .v (.int .i64 (p.1.1 : Int)))], [(12, ⟨4, 1, rng (cs.length + 1) p.1.2⟩)]⟩) (fun p => p.1.1) ⟨(b, fun x => decide (x = b)), h2, hst0⟩ ⟨⟨congrArg (fun x => some (OB.mk _ _ x)) hrow, trivial⟩, .inl ⟨rfl, rfl⟩, .inl ⟨rfl, rfl⟩, .inl ⟨rfl, rfl⟩, trivial⟩ ?_
 rintro ⟨⟨k, f⟩, hk, hst⟩
 dsimp only at hk hst ⊢
 conv => whnf
 cases k with
 | zero =>
  repeat ((refine qz ?_; conv => whnf))
  exact kD rfl (congrArg (fun x => some (OB.mk _ _ x)) (aFo fun j _ => hst.end hb j))
 | succ i =>
  have hi : i < cs.length := hk
  have hlt : i + 1 < cs.length + 1 := by omega
  cases hf : f (i + 1) with
  | false =>
   have hget : (rng (cs.length + 1) f)[i + 1]? = some (AV.v (.bool false)) := by rw [jP hlt, hf]; rfl
   repeat (first | (refine qp (xB (xZ (c := (i : Int)) (by omega) (by omega) (by omega)) rfl rfl rfl) ?_; conv => whnf) | (refine qz ?_; conv => whnf) | (refine qP (uK (j := i + 1) (by rw [aAM]; exact hlt) rfl rfl rfl rfl rfl) ?_) | (refine qp (zi rfl rfl hget rfl rfl rfl rfl) ?_; conv => whnf))
   exact ⟨⟨(i, f), by omega, hst.skip hb (by simp [hf])⟩, by exact qle, by simp⟩
  | true =>
   have ha : Anc cs b (i + 1) := (hst.at hb).1 hf
   have hget : (rng (cs.length + 1) f)[i + 1]? = some (AV.v (.bool true)) := by rw [jP hlt, hf]; rfl
   repeat (first | (refine qp (xB (xZ (c := (i : Int)) (by omega) (by omega) (by omega)) rfl rfl rfl) ?_; conv => whnf) | (refine qz ?_; conv => whnf) | (refine qP (uK (j := i + 1) (by rw [aAM]; exact hlt) rfl rfl rfl rfl rfl) ?_) | (refine qp (zi rfl rfl hget rfl rfl rfl rfl) ?_; conv => whnf))
   have hpar := aAG hb hi
   refine xX (ι := { p : Nat × (Nat → Bool) // p.1 ≤ (cs[i]).1.length ∧ Stp cs b (i + 1) (cs[i]).1 p.1 p.2 }) (fun p => ⟨[(0, .lst 2 (cs.map yI)), (5, .own 12), (6, .v (.int .i64 ((i + 1 : Nat) : Int))), (7, .v (.int .i64 (p.1.1 : Int)))], [(12, ⟨4, 1, rng (cs.length + 1) p.1.2⟩)]⟩) (fun p => (cs[i]).1.length - p.1.1) ⟨(0, f), Nat.zero_le _, Stp.zero hst⟩ (by exact qle) ?_
   rintro ⟨⟨kk, g⟩, hkk, hsp⟩
   dsimp only at hkk hsp ⊢
   conv => whnf
   have hl3 : (cs[i]).1.length ≤ 2 := hpar.1
   by_cases hlk : kk < (cs[i]).1.length
   · obtain ⟨_, g1, g2, _⟩ := hpar.2.2 kk hlk
     obtain ⟨p, hp⟩ : ∃ p : Nat, (cs[i]).1[kk] = (p : Int) := ⟨((cs[i]).1[kk]).toNat, by omega⟩
     have hpl : p < cs.length + 1 := by omega
     repeat (first | (refine qp (xB (xZ (c := (i : Int)) (by omega) (by omega) (by omega)) rfl rfl rfl) ?_; conv => whnf) | (refine qz ?_; conv => whnf) | (refine qp (uK (j := p) (by rw [aAM]; exact hpl) rfl rfl (by show AV.v (.int .i64 (cs[i]).1[kk]) = _; rw [hp]) rfl rfl) ?_; conv => whnf) | (refine qr (xS (jP hpl) rfl rfl rfl rfl rfl rfl) ?_; conv => whnf))
     exact ⟨⟨(kk + 1, fun x => g x || decide (x = p)), hlk, hsp.next hlk hp⟩, ⟨⟨congrArg (fun x => some (OB.mk _ _ x)) (aGM hpl), trivial⟩, .inl ⟨rfl, rfl⟩, .inl ⟨rfl, rfl⟩, .inl ⟨rfl, rfl⟩, .inl ⟨rfl, rfl⟩, trivial⟩, by simp; omega⟩
   · have hke : kk = (cs[i]).1.length := by omega
     rw [hke] at hsp
     repeat ((first | refine qp (xB (xZ (c := (i : Int)) (by omega) (by omega) (by omega)) rfl rfl rfl) ?_ | refine qz ?_); conv => whnf)
     exact ⟨⟨(i, g), by omega, hsp.done hi ha⟩, by exact qle, by simp⟩
end Go.Proofs.YtkfllfhcjegfoaaGreatDoor.AM
namespace Go.Proofs.YtkfllfhcjegfoaaGreatDoor.AM
open Go Go.RowKit
theorem aQ1 {s : St} {Θ : Tab} {t1 t2 : Nat} {y1 y2 : AV} (h1 : aAP s [] (s.sl t1) y1) (h2 : aAP s [] (s.sl t2) y2) : vU Θ [.tmp t1, .tmp t2] ⟨.tup [y1, y2], []⟩ .ret s :=
 ⟨trivial, [], by simp, trivial, ⟨trivial, trivial, trivial⟩, ⟨_, rfl⟩, ⟨h1, h2, trivial⟩⟩
attribute [local irreducible] xM xN xW yF yL Pre ACG
end Go.Proofs.YtkfllfhcjegfoaaGreatDoor.AM
namespace Go.Proofs.YtkfllfhcjegfoaaGreatDoor.AM
open Go Go.RowKit
def zO (cs : List Cmt) (id : Nat) : List Nat := match cs[id - 1]? with
 | some c => c.1.map Int.toNat
 | none => []
def vQ (cs : List Cmt) : Nat → Nat → AV
 | 0, id => .agg [.v (.int .i64 (id : Int)), .lst 1 []]
 | n + 1, id => .agg [.v (.int .i64 (id : Int)), .lst 1 ((zO cs id).map fun p => .ptr (vQ cs n p))]
def mark (f : Nat → Bool) (i : Nat) : Nat → Bool := fun x => f x || decide (x = i)
def zV (cs : List Cmt) : Nat → Nat → (Nat → Bool) → Nat → Bool
 | 0, id, f => f
 | n + 1, id, f => match f id with
  | true => f
  | false => (zO cs id).foldl (fun g p => zV cs n p g) (mark f id)
theorem aAU {m j : Nat} {f : Nat → Bool} (h : j < m) : xq (.agg (rng m f)) [j] 0 = some (bA (f j), 0 + j * 1) := by
 have hz : ∀ (k : Nat), k ≤ m → xL ((rng m f).take k) = k := fun k hk => by
  rw [yG (sz := 1) (fun x hx => by
   have := List.mem_of_mem_take hx
   unfold rng at this
   obtain ⟨b, _, rfl⟩ := List.mem_map.1 this
   rfl), List.length_take, aAM, Nat.min_eq_left hk, Nat.mul_one]
 simp [xq, jP h, hz j (by omega)]
def aFe (f : Nat → Bool) : OB := ⟨.s 283, 61, [.agg (rng 61 f)]⟩
def aLJ (x : AV) : OB := ⟨.o (some 291) 0 (.fn 206 [] [.optr 0 0 [] 0, .optr 1000000 0 [] 0]), 1, [x]⟩
theorem aQK {j : Nat} {f : Nat → Bool} (h : j < 61) : uM (.agg (rng 61 f)) [j] (.v (.bool true)) = .agg (rng 61 (mark f j)) := by
 have := aGM (m := 61) (f := f) h
 simp only [uM, jP h]
 exact congrArg AV.agg this
theorem aGU {s : St} {Θ : Tab} {rout : List OB} (h : aFS s 0 rout) : yF Θ [] rout ⟨.tup [], []⟩ .ret s := ⟨h, [], by simp, trivial, trivial, ⟨_, rfl⟩, trivial⟩
theorem aOI {s : St} {Θ : Tab} {rout : List OB} (h : aFS s 0 rout) : yF Θ [] rout ⟨.tup [], []⟩ .normal s := ⟨h, [], by simp, trivial, trivial, ⟨_, rfl⟩, trivial⟩
theorem aIj {cs : List Cmt} (hb : yx cs = true) {id : Nat} (h1 : 1 ≤ id) (h3 : id ≤ cs.length) : ∀ p ∈ zO cs id, 1 ≤ p ∧ p < id := fun p hp => by
 have hi : id - 1 < cs.length := by omega
 unfold zO at hp
 rw [List.getElem?_eq_getElem hi] at hp
 obtain ⟨y, hy, rfl⟩ := List.mem_map.1 hp
 obtain ⟨i, hi2, rfl⟩ := List.getElem_of_mem hy
 obtain ⟨_, k1, k2, _⟩ := (aAG hb hi).2.2 i hi2
 omega
theorem aN3 {cs : List Cmt} (hb : yx cs = true) (id : Nat) : (zO cs id).length ≤ 2 := by
 unfold zO
 split
 · rename_i c h
   obtain ⟨hi, rfl⟩ := List.getElem?_eq_some_iff.1 h
   rw [List.length_map]; exact (aAG hb hi).1
 · simp
attribute [local irreducible] xM xN xW yF yL Pre ACG
theorem aOq {cs : List Cmt} (hb : yx cs = true) {x : AV} : ∀ (n id : Nat) (f : Nat → Bool), 1 ≤ id → id ≤ n → id ≤ cs.length → ACG Tryz.prog 206 [.ptr (vQ cs n id), .optr 0 0 [] 0, .optr 1000000 0 [] 0] [aFe f, aLJ x] [aFe (zV cs n id f), aLJ x] ⟨.tup [], []⟩ := by
 intro n
 induction n with
 | zero => intro id f h1 h2; omega
 | succ n ih =>
  intro id f h1 h2 h3
  obtain ⟨hl1, hl2⟩ := vX hb
  have h61 : id < 61 := by omega
  refine aRH aDY (by kernel_rfl) Tryz.func206 rfl Tryz.ntmps206 Tryz.results206 (by kernel_rfl) rfl rfl rfl ?_
  conv => whnf
  cases hf : f id with
  | true =>
   have hw : zV cs (n + 1) id f = f := by simp [zV, hf]
   rw [hw]
   have hget : xq (.agg (rng 61 f)) [id] 0 = some (AV.v (.bool true), 0 + id * 1) := by rw [aAU h61, hf]; rfl
   repeat (first | (refine qz ?_; conv => whnf) | (refine qP (aCr h61 rfl rfl rfl) ?_) | (refine qp (zi rfl rfl rfl hget rfl rfl rfl) ?_; conv => whnf))
   exact aGU ⟨rfl, rfl, trivial⟩
  | false =>
   have hw : zV cs (n + 1) id f = (zO cs id).foldl (fun g p => zV cs n p g) (mark f id) := by simp [zV, hf]
   have hget : xq (.agg (rng 61 f)) [id] 0 = some (AV.v (.bool false), 0 + id * 1) := by rw [aAU h61, hf]; rfl
   repeat (first | (refine qz ?_; conv => whnf) | (refine qP (aCr h61 rfl rfl rfl) ?_) | (refine qp (zi rfl rfl rfl hget rfl rfl rfl) ?_; conv => whnf) | (refine qr (xS rfl rfl rfl hget rfl rfl rfl) ?_; conv => whnf))
   rw [hw]
   have hpl := aIj hb h1 h3
   have hp2 := aN3 hb id
   refine xX (ι := { k : Nat // k ≤ (zO cs id).length }) (fun k => ⟨[(2, .optr 1000000 0 [] 0), (20, .lst 1 ((zO cs id).map fun p => .ptr (vQ cs n p))), (21, .v (.int .i64 ((zO cs id).length : Int))), (22, .v (.int .i64 (k.1 : Int)))], [(0, aFe (((zO cs id).take k.1).foldl (fun g p => zV cs n p g) (mark f id))), (1000000, aLJ x)]⟩) (fun k => (zO cs id).length - k.1) ⟨0, Nat.zero_le _⟩ ⟨⟨congrArg (fun y => some (OB.mk _ _ [y])) (aQK h61), rfl, trivial⟩, .inl ⟨rfl, rfl⟩, .inl ⟨rfl, rfl⟩, .inl ⟨rfl, rfl⟩, .inl ⟨rfl, rfl⟩, trivial⟩ ?_
   rintro ⟨k, hk⟩
   dsimp only at hk ⊢
   conv => whnf
   by_cases hlt : k < (zO cs id).length
   · obtain ⟨p1, p2⟩ := hpl _ (List.getElem_mem hlt)
     have hfold : zV cs n (zO cs id)[k] (((zO cs id).take k).foldl (fun g p => zV cs n p g) (mark f id)) = ((zO cs id).take (k + 1)).foldl (fun g p => zV cs n p g) (mark f id) := by
      rw [List.take_succ_eq_append_getElem hlt, List.foldl_append]; rfl
     have hac := ih (zO cs id)[k] (((zO cs id).take k).foldl (fun g p => zV cs n p g) (mark f id)) p1 (by omega) (by omega)
     rw [hfold] at hac
     repeat ((first | refine qz ?_ | refine qr (aFw [0, 1000000] hac rfl rfl ⟨rfl, rfl, trivial⟩ rfl rfl trivial rfl rfl rfl (.inl rfl) rfl) ?_); conv => whnf)
     exact ⟨⟨k + 1, hlt⟩, ⟨⟨rfl, rfl, trivial⟩, .inl ⟨rfl, rfl⟩, .inl ⟨rfl, rfl⟩, .inl ⟨rfl, rfl⟩, .inl ⟨rfl, rfl⟩, trivial⟩, by simp; omega⟩
   · have hke : k = (zO cs id).length := by omega
     subst hke
     repeat ((refine qz ?_; conv => whnf))
     first
      | exact aGU ⟨by rw [List.take_length]; rfl, rfl, trivial⟩
      | exact aOI ⟨by show some (aFe _) = _; rw [List.take_length], rfl, trivial⟩
      | exact aGU ⟨by show some (aFe _) = _; rw [List.take_length], rfl, trivial⟩
end Go.Proofs.YtkfllfhcjegfoaaGreatDoor.AM
namespace Go.Proofs.YtkfllfhcjegfoaaGreatDoor.AM
open Go Go.RowKit
theorem aKx {cs : List Cmt} (hb : yx cs = true) : ∀ (n m id : Nat), 1 ≤ id → id ≤ n → id ≤ m → id ≤ cs.length → vQ cs n id = vQ cs m id := by
 intro n
 induction n with
 | zero => intro m id h1 h2; omega
 | succ n ih =>
  intro m id h1 h2 h3 h4
  obtain ⟨m, rfl⟩ : ∃ m', m = m' + 1 := ⟨m - 1, by omega⟩
  have : (zO cs id).map (fun p => AV.ptr (vQ cs n p)) = (zO cs id).map fun p => .ptr (vQ cs m p) := List.map_congr_left fun p hp => by
   obtain ⟨q1, q2⟩ := aIj hb h1 h4 p hp
   rw [ih m p q1 (by omega) (by omega) (by omega)]
  simp only [vQ]
  rw [this]
def ndE (cs : List Cmt) (i j : Nat) : AV := if j < i then .ptr (vQ cs (j + 1) (j + 1)) else .v (.pointer none)
def ndL (cs : List Cmt) (i n : Nat) : List AV := (List.range n).map (ndE cs i)
theorem aGX {cs : List Cmt} {i n : Nat} : (ndL cs i n).length = n := by simp [ndL]
theorem aNv {cs : List Cmt} {i n j : Nat} (h : j < n) : (ndL cs i n)[j]? = some (ndE cs i j) := by simp [ndL, h]
theorem aPv {cs : List Cmt} {n : Nat} : List.replicate n (AV.v (.pointer none)) = ndL cs 0 n := by
 apply List.ext_getElem
 · simp [ndL]
 · intro i h1 h2; simp [ndL, ndE]
theorem aQH {cs : List Cmt} {i n : Nat} (h : i < n) : (ndL cs i n).set i (.ptr (vQ cs (i + 1) (i + 1))) = ndL cs (i + 1) n := by
 apply List.ext_getElem
 · simp [ndL]
 · intro j h1 h2
   rw [List.getElem_set]
   split
   · rename_i e; subst e; simp [ndL, ndE]
   · rename_i e
     simp only [ndL, List.getElem_map, List.getElem_range, ndE]
     have : j < i ↔ j < i + 1 := by omega
     simp [this]
theorem aK0 {cs : List Cmt} (hb : yx cs = true) {i n p : Nat} (h0 : 1 ≤ p) (h1 : p ≤ i) (h2 : i ≤ n) (h3 : i ≤ cs.length) : (ndL cs i n)[p - 1]? = some (.ptr (vQ cs i p)) := by
 rw [aNv (by omega), ndE, if_pos (by omega)]
 have : p - 1 + 1 = p := by omega
 rw [this, aKx hb p i p h0 (Nat.le_refl _) h1 (by omega)]
attribute [local irreducible] xM xN xW yF yL Pre ACG
theorem aG4 {cs : List Cmt} {id : Nat} (hb : yx cs = true) (h1 : 1 ≤ id) (h2 : id ≤ cs.length) : AC Tryz.prog 204 [.lst 2 (cs.map yI), .v (.int .i64 (id : Int))] ⟨.ptr (vQ cs id id), []⟩ := by
 obtain ⟨hl1, hl2⟩ := vX hb
 refine qrf Tryz.func204 Tryz.ntmps204 Tryz.results204 ?_; conv => whnf
 repeat ((first | refine qz ?_ | refine qr (jF (n := id) (by omega) (by omega) rfl rfl rfl rfl) ?_ | refine qp (aBI (h := id) (xs := cs) (f := yI) h2 rfl rfl rfl) ?_); conv => whnf)
 have hlen : (cs.take id).length = id := by simp; omega
 refine xX (ι := { i : Nat // i ≤ id }) (fun i => ⟨[(1, .v (.int .i64 (id : Int))), (5, .own 13), (15, .lst 2 ((cs.take id).map yI)), (16, .v (.int .i64 ((cs.take id).length : Int))), (17, .v (.int .i64 (i.1 : Int)))], [(13, ⟨284, 1, ndL cs i.1 id⟩)]⟩) (fun i => id - i.1) ⟨0, Nat.zero_le _⟩ ⟨⟨congrArg (fun x => some (OB.mk _ _ x)) aPv, trivial⟩, .inl ⟨rfl, rfl⟩, .inl ⟨rfl, rfl⟩, .inl ⟨rfl, rfl⟩, .inl ⟨rfl, rfl⟩, .inl ⟨rfl, rfl⟩, trivial⟩ ?_
 rintro ⟨i, hi⟩
 dsimp only at hi ⊢
 conv => whnf
 by_cases hlt : i < id
 case neg =>
  have hie : i = id := by omega
  subst hie
  have hget := aK0 hb (n := i) h1 (Nat.le_refl _) (Nat.le_refl _) h2
  repeat (first | (refine qp (xB (xZ (c := ((i - 1 : Nat) : Int)) (by omega) (by omega) (by omega)) rfl rfl rfl) ?_; conv => whnf) | (refine qz ?_; conv => whnf) | (refine qP (uK (j := i - 1) (by rw [aGX]; omega) rfl rfl rfl rfl rfl) ?_) | (refine qp (zi rfl rfl hget rfl rfl rfl rfl) ?_; conv => whnf))
  exact aQf rfl
 have hic : i < cs.length := by omega
 have hic2 : i < (cs.take id).length := by omega
 have hgi : ((cs.take id).map yI)[i]? = some (yI cs[i]) := by
  rw [List.getElem?_map, List.getElem?_take, if_pos hlt, List.getElem?_eq_getElem hic]; rfl
 have hpar := aAG hb hic
 have hpn : zO cs (i + 1) = (cs[i]).1.map Int.toNat := by
  unfold zO
  rw [Nat.add_sub_cancel, List.getElem?_eq_getElem hic]
 have hl3 : (cs[i]).1.length ≤ 2 := hpar.1
 (refine qz ?_; conv => whnf)
 repeat ((first | refine qp (xk hgi rfl rfl rfl) ?_ | refine qst ?_); conv => whnf)
 refine qP (xB (a := .int .i64 (i : Int)) (b := .int .i64 1) (jf (c := ((i + 1 : Nat) : Int)) (by omega) (by omega) (by omega)) rfl rfl rfl) ?_
 refine qP (aCf rfl ⟨⟨_, _, rfl, rfl, rfl⟩, trivial⟩ rfl) ?_
 refine aCs (aQ4 rfl rfl rfl) rfl rfl (fun e => by cases e) (Gh.nilx 26 0 900000 [1] (.s 284) 1 rfl rfl rfl rfl rfl rfl (by omega) (Gh.done ?_))
 conv => whnf
 repeat ((refine qz ?_; conv => whnf))
 have hpl : (zO cs (i + 1)).length = (cs[i]).1.length := by rw [hpn, List.length_map]
 refine xX (ι := { k : Nat // k ≤ (cs[i]).1.length }) (fun k => ⟨[(1, .v (.int .i64 (id : Int))), (5, .own 13), (6, .v (.int .i64 (i : Int))), (8, .optr 26 0 [] 0), (15, .lst 2 ((cs.take id).map yI)), (16, .v (.int .i64 ((cs.take id).length : Int))), (17, .v (.int .i64 (i : Int))), (27, .lst 1 ((cs[i]).1.map zx)), (28, .v (.int .i64 ((cs[i]).1.length : Int))), (29, .v (.int .i64 (k.1 : Int)))], [(13, ⟨284, 1, ndL cs i id⟩), (26, ⟨.o (some 289) 0 (.mix [.v (.int .i64 ((i + 1 : Nat) : Int)), .own 900000]), 2, [.mix [.v (.int .i64 ((i + 1 : Nat) : Int)), .v (.slice none 0 0)]]⟩), (900000, ⟨284, 1, ((zO cs (i + 1)).take k.1).map fun p => .ptr (vQ cs i p)⟩)]⟩) (fun k => (cs[i]).1.length - k.1) ⟨0, Nat.zero_le _⟩ (by exact qle) ?_
 rintro ⟨k, hk⟩
 dsimp only at hk ⊢
 conv => whnf
 by_cases hlk : k < (cs[i]).1.length
 case neg =>
  have hke : k = (cs[i]).1.length := by omega
  have hgi2 : (ndL cs i id)[i]? = some (.v (.pointer none)) := by rw [aNv hlt]; simp [ndE]
  have hrow : (ndL cs i id).set i (.ptr (.agg [.v (.int .i64 ((i + 1 : Nat) : Int)), .lst 1 (((zO cs (i + 1)).take k).map fun p => .ptr (vQ cs i p))])) = ndL cs (i + 1) id := by
   rw [← aQH hlt, List.take_of_length_le (by omega)]; rfl
  repeat ((refine qz ?_; conv => whnf))
  refine aCs (uK (j := i) (by rw [aGX]; omega) rfl rfl rfl rfl rfl) rfl rfl (fun e => by cases e) (Gh.foldr 26 900000 [1] rfl rfl rfl rfl rfl rfl (Gh.shuts 26 rfl rfl (Gh.done ?_)))
  conv => whnf
  refine qr (aMV hgi2 rfl rfl rfl rfl rfl rfl rfl rfl) ?_
  conv => whnf
  repeat ((refine qz ?_; conv => whnf))
  exact ⟨⟨i + 1, hlt⟩, ⟨⟨congrArg (fun x => some (OB.mk _ _ x)) hrow, trivial⟩, .inl ⟨rfl, rfl⟩, .inl ⟨rfl, rfl⟩, .inl ⟨rfl, rfl⟩, .inl ⟨rfl, rfl⟩, .inl ⟨rfl, rfl⟩, trivial⟩, by simp; omega⟩
 obtain ⟨_, g1, g2, _⟩ := hpar.2.2 k hlk
 obtain ⟨p, hp⟩ : ∃ p : Nat, (cs[i]).1[k] = (p : Int) := ⟨((cs[i]).1[k]).toNat, by omega⟩
 have hget := aK0 hb (i := i) (n := id) (p := p) (by omega) (by omega) (by omega) (by omega)
 have hsn : (zO cs (i + 1)).take k ++ [p] = (zO cs (i + 1)).take (k + 1) := by
  rw [List.take_succ_eq_append_getElem (by omega)]
  congr 2
  have : (zO cs (i + 1))[k]'(by omega) = ((cs[i]).1[k]).toNat := by simp [hpn]
  rw [this, hp]; rfl
 have hmap : ∀ q : Nat, [AV.ptr (vQ cs i q)] = [(fun p => AV.ptr (vQ cs i p)) q] := fun q => rfl
 repeat (first | (refine qdr ?_; conv => whnf) | (refine qp (xB (xZ (c := ((p - 1 : Nat) : Int)) (by omega) (by omega) (by omega)) rfl rfl rfl) ?_; conv => whnf) | (refine qz ?_; conv => whnf) | (refine qP (uK (j := p - 1) (by rw [aGX]; omega) rfl rfl rfl rfl rfl) ?_) | (refine qp (zi rfl rfl hget rfl rfl rfl rfl) ?_; conv => whnf))
 refine aAd (aRA rfl rfl rfl rfl rfl rfl) rfl rfl (fun _ => .inr (.inr (aE0 (by kernel_rfl) (by kernel_rfl)))) ?_
 conv => whnf
 refine aAd (aBu (f := fun p => AV.ptr (vQ cs i p)) p _ hsn (by rw [List.length_take]; omega) rfl rfl rfl rfl rfl rfl rfl) rfl rfl (fun _ => .inr (.inr (aOv (by kernel_rfl) (by kernel_rfl)))) ?_
 conv => whnf
 refine qr (aA9 rfl rfl rfl rfl rfl rfl) ?_
 conv => whnf
 repeat ((refine qz ?_; conv => whnf))
 exact ⟨⟨k + 1, hlk⟩, by exact qle, by simp; omega⟩
end Go.Proofs.YtkfllfhcjegfoaaGreatDoor.AM
namespace Go.Proofs.YtkfllfhcjegfoaaGreatDoor.AM
open Go Go.RowKit
theorem aGw {cs : List Cmt} {q p : Nat} (hb : yx cs = true) (h1 : 1 ≤ q) (h2 : q ≤ cs.length) : p ∈ zO cs q ↔ Par cs q p := by
 have hi : q - 1 < cs.length := by omega
 unfold zO
 rw [List.getElem?_eq_getElem hi]
 constructor
 · intro h
   obtain ⟨y, hy, rfl⟩ := List.mem_map.1 h
   obtain ⟨i, hi2, rfl⟩ := List.getElem_of_mem hy
   obtain ⟨_, k1, _⟩ := (aAG hb hi).2.2 i hi2
   refine ⟨hi, h1, ?_⟩
   rw [Int.toNat_of_nonneg (by omega)]; exact hy
 · rintro ⟨_, _, h⟩
   exact List.mem_map.2 ⟨_, h, by simp⟩
theorem Anc.trans {cs : List Cmt} {a b c : Nat} (h : Anc cs a b) (k : Anc cs b c) : Anc cs a c := by
 induction k with
 | refl => exact h
 | up _ hp ih => exact .up ih hp
theorem Par.anc {cs : List Cmt} {a b : Nat} (h : Par cs a b) : Anc cs a b := .up .refl h
def aKg (cs : List Cmt) (id : Nat) (f : Nat → Bool) : Prop := ∀ q j, q ≤ id → f q = true → Par cs q j → f j = true
def aQv (cs : List Cmt) (id : Nat) (f g : Nat → Bool) : Prop := (∀ j, f j = true → g j = true) ∧ g id = true ∧ (∀ j, g j = true → f j = true ∨ Anc cs id j) ∧ aKg cs id g
theorem aPk {cs : List Cmt} (hb : yx cs = true) : ∀ (n id : Nat) (f : Nat → Bool), 1 ≤ id → id ≤ n → id ≤ cs.length → aKg cs id f → aQv cs id f (zV cs n id f) := by
 intro n
 induction n with
 | zero => intro id f h1 h2; omega
 | succ n ih =>
  intro id f h1 h2 h3 hc
  cases hf : f id with
  | true =>
   have hw : zV cs (n + 1) id f = f := by simp [zV, hf]
   rw [hw]
   exact ⟨fun j h => h, hf, fun j h => .inl h, hc⟩
  | false =>
   have hw : zV cs (n + 1) id f = (zO cs id).foldl (fun g p => zV cs n p g) (mark f id) := by simp [zV, hf]
   rw [hw]
   have hm : ∀ j, mark f id j = true ↔ (f j = true ∨ j = id) := fun j => by simp [mark]
   have key : ∀ (ps : List Nat) (g : Nat → Bool), (∀ p ∈ ps, Par cs id p) → (∀ q j, q < id → g q = true → Par cs q j → g j = true) →
    (∀ j, g j = true → (ps.foldl (fun g p => zV cs n p g) g) j = true) ∧ (∀ p ∈ ps, (ps.foldl (fun g p => zV cs n p g) g) p = true) ∧ (∀ j, (ps.foldl (fun g p => zV cs n p g) g) j = true → g j = true ∨ Anc cs id j) ∧ (∀ q j, q < id → (ps.foldl (fun g p => zV cs n p g) g) q = true → Par cs q j → (ps.foldl (fun g p => zV cs n p g) g) j = true) := by
    intro ps
    induction ps with
    | nil => intro g _ hg; exact ⟨fun j h => h, by simp, fun j h => .inl h, hg⟩
    | cons p ps ihp =>
     intro g hp hg
     have hpp := hp p (by simp)
     obtain ⟨l1, l2, l3⟩ := hpp.lt hb
     obtain ⟨w1, w2, w3, w4⟩ := ih p g l1 (by omega) (by omega) (fun q j hq hgq hpar => hg q j (by omega) hgq hpar)
     have hg' : ∀ q j, q < id → zV cs n p g q = true → Par cs q j → zV cs n p g j = true := fun q j hq hw hpar => by
      rcases Nat.lt_or_ge p q with h | h
      · rcases w3 q hw with h5 | h5
        · exact w1 j (hg q j hq h5 hpar)
        · have := (h5.le hb l1).2; omega
      · exact w4 q j h hw hpar
     obtain ⟨k1, k2, k3, k4⟩ := ihp (zV cs n p g) (fun r hr => hp r (List.mem_cons_of_mem _ hr)) hg'
     simp only [List.foldl_cons]
     refine ⟨fun j h => k1 j (w1 j h), fun r hr => ?_, fun j h => ?_, k4⟩
     · rcases List.mem_cons.1 hr with rfl | hr
       · exact k1 _ w2
       · exact k2 r hr
     · rcases k3 j h with h5 | h5
       · rcases w3 j h5 with h6 | h6
         · exact .inl h6
         · exact .inr (hpp.anc.trans h6)
       · exact .inr h5
   obtain ⟨k1, k2, k3, k4⟩ := key (zO cs id) (mark f id) (fun p hp => (aGw hb h1 h3).1 hp) (fun q j hq hgq hpar => by
    rcases (hm q).1 hgq with h | h
    · exact (hm j).2 (.inl (hc q j (by omega) h hpar))
    · omega)
   refine ⟨fun j h => k1 j ((hm j).2 (.inl h)), k1 id ((hm id).2 (.inr rfl)), fun j h => ?_, fun q j hq hgq hpar => ?_⟩
   · rcases k3 j h with h5 | h5
     · rcases (hm j).1 h5 with h6 | h6
       · exact .inl h6
       · exact .inr (h6 ▸ .refl)
     · exact .inr h5
   · rcases Nat.lt_or_ge q id with h | h
     · exact k4 q j h hgq hpar
     · have : q = id := by omega
       subst this
       exact k2 j ((aGw hb h1 h3).2 hpar)
theorem aOY {cs : List Cmt} (hb : yx cs = true) {id : Nat} (h1 : 1 ≤ id) (h2 : id ≤ cs.length) (j : Nat) : zV cs id id (fun _ => false) j = uS cs id j := by
 obtain ⟨_, w2, w3, w4⟩ := aPk hb id id (fun _ => false) h1 (Nat.le_refl _) h2 (fun q j _ h => by cases h)
 have : zV cs id id (fun _ => false) j = true ↔ uS cs id j = true := by
  rw [aFD]
  constructor
  · intro h
    rcases w3 j h with h | h
    · cases h
    · exact h
  · intro h
    induction h with
    | refl => exact w2
    | up hq hp ih => exact w4 _ _ (hq.le hb h1).2 ih hp
 cases h3 : zV cs id id (fun _ => false) j <;> cases h4 : uS cs id j <;> simp_all
theorem aKb : ∀ l : List Bool, xL (l.map bA) = l.length
 | [] => rfl
 | b :: l => by simp only [List.map_cons, xL, List.length_cons, aKb l]; simp [bA, asz]; omega
theorem aD9 {m : Nat} {f : Nat → Bool} : asz (.agg (rng m f)) = m := by
 simp only [asz, rng, aKb, List.length_map, List.length_range]
theorem aHv : ∀ l : List Bool, zq (l.map bA) = true
 | [] => rfl
 | b :: l => by simp only [List.map_cons, zq, aHv l]; rfl
theorem aNI {m : Nat} {f : Nat → Bool} : zl (.agg (rng m f)) = true := by simp only [zl, rng, aHv]
section
variable {s : St} {ty : TypeId} {pos : String} {after : Array Edge} {g : Option (Nat × Bool)} {f : Nat → Bool}
theorem aFB {d : Nat} (hf : s.hp (d + 1) = none) (hok : okL (d + 1) = true := by rfl) : Pre Tryz.prog Th ⟨some d, .alloc 283, ty, pos, after, g⟩ s ⟨.optr (d + 1) 0 [] 0, some fun s => s.set (d + 1) (some ⟨.s 283, 61, [.agg (rng 61 fun _ => false)]⟩)⟩ := by
 have h := zP (P := Tryz.prog) (Θ := Th) (s := s) (ty := ty) (pos := pos) (after := after) (g := g) (t := 283) (d := d) hf rfl hok
 have e : (⟨kz 283 (Th.look 283).zero, (Th.look 283).size, [(Th.look 283).zero]⟩ : OB) = ⟨.s 283, 61, [.agg (rng 61 fun _ => false)]⟩ := by
  show OB.mk (kz 283 (.agg (List.replicate 61 zB))) (61 * 1) [.agg (List.replicate 61 zB)] = _
  rw [aK2]
  unfold kz
  rw [aNI]; rfl
 rw [e] at h
 exact h
theorem aRY {d : Option Tmp} {x : Operand} {l t0 : Nat} (hx : s.ev x = .optr l 0 [] 0) (ho : s.hp l = some ⟨.s t0, 61, [.agg (rng 61 f)]⟩) : Pre Tryz.prog Th ⟨d, .load 283 x, ty, pos, after, g⟩ s ⟨.agg (rng 61 f), none⟩ :=
 zi hx ho rfl rfl rfl rfl aD9
theorem aLn {d : Option Tmp} {x y : Operand} {l t0 : Nat} {f' : Nat → Bool} (hx : s.ev x = .optr l 0 [] 0) (ho : s.hp l = some ⟨.s t0, 61, [.agg (rng 61 f')]⟩) (hy : s.ev y = .agg (rng 61 f)) : Pre Tryz.prog Th ⟨d, .store 283 x y, ty, pos, after, g⟩ s ⟨.any, some fun s' => s'.set l (some ⟨.s t0, 61, [.agg (rng 61 f)]⟩)⟩ :=
 xS (q := .agg (rng 61 f')) (z := .agg (rng 61 f')) (v := .agg (rng 61 f)) rfl hx ho rfl (by rw [aD9, aD9]; rfl) hy rfl
theorem aRW {d : Option Tmp} {f : FuncId} {fs cs : Array Operand} {xs ys : List AV} (hx : fs.toList.map s.ev = xs) (hy : cs.toList.map s.ev = ys) (hc : wD (fs.toList ++ cs.toList) = true) : Pre Tryz.prog Th ⟨d, .makeFunc (.func f) fs cs, ty, pos, after, g⟩ s ⟨.fn f xs ys, none⟩ :=
 ⟨f, rfl, uD hc, by rw [hx, hy]⟩
end
attribute [local irreducible] rng
attribute [local irreducible] xM xN xW yF yL Pre ACG
theorem aCx {cs : List Cmt} {id : Nat} (hb : yx cs = true) (h1 : 1 ≤ id) (h2 : id ≤ cs.length) : AC Tryz.prog 205 [.ptr (vQ cs id id)] ⟨.agg (rng 61 (uS cs id)), []⟩ := by
 have hr : rng 61 (zV cs id id fun _ => false) = rng 61 (uS cs id) := aFo fun j _ => aOY hb h1 h2 j
 rw [← hr]
 refine aCv aDY (by kernel_rfl) Tryz.func205 rfl Tryz.ntmps205 (rs := [.cell 2 283]) (by rw [Tryz.results205]) (by kernel_rfl) (Nat.le_of_ble_eq_true rfl) rfl rfl ?_
 refine vZ (aA0 (yA rfl rfl (aFB rfl) (fun e => by cases e) (qR (wz ?_))))
 refine vZ (aA0 (yA rfl rfl (aFB rfl) (fun e => by cases e) (qR (wz ?_))))
 refine vZ (aA0 (yA rfl rfl (zP rfl rfl) (fun e => by cases e) (qR (wz ?_))))
 refine vZ (aA0 (zN (aRW (xs := []) (ys := [.optr 4 0 [] 0, .optr 5 0 [] 0]) rfl rfl rfl) rfl rfl ?_))
 refine yA rfl rfl (aMk (y' := .fn 206 [] [.optr 4 0 [] 0, .optr 5 0 [] 0]) rfl rfl rfl rfl) (fun e => by cases e) (qR (wz ?_))
 refine vZ (aA0 (zN (aNn rfl rfl rfl rfl rfl rfl rfl rfl) rfl rfl (zN (kZ rfl) rfl rfl ?_)))
 refine yA rfl rfl (aFw [4, 5] (aOq hb (x := .fn 206 [] [.optr 4 0 [] 0, .optr 5 0 [] 0]) id id (fun _ => false) h1 (Nat.le_refl _) h2) rfl rfl ⟨rfl, rfl, trivial⟩ rfl rfl trivial rfl rfl rfl (.inl rfl) rfl) (fun e => by cases e) (qR (wz ?_))
 refine vZ (aA0 (zN (aRY rfl rfl) rfl rfl ?_))
 refine yA rfl rfl (aLn rfl rfl rfl) (fun e => by cases e) (qR (wz ?_))
 refine aLj ?_
 exact uX (x := .agg (rng 61 (zV cs id id fun _ => false))) rfl rfl rfl (by rw [aD9]; rfl) trivial
end Go.Proofs.YtkfllfhcjegfoaaGreatDoor.AM
