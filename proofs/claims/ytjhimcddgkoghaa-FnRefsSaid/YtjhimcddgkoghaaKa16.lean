/- Texts of the machine over data, folded. -/
import Derived.Test.YtjhimcddgkoghaaKa5
import Derived.Test.YtjhimcddgkoghaaKa15
import Derived.Test.YtjhimcddgkoghaaKa11
import Derived.Test.YtjhimcddgkoghaaKa12
namespace Go.Proofs.Ytjhimcddgkoghaa.AM
open Go Go.RowKit
set_option linter.unusedVariables false
set_option linter.unusedSimpArgs false
set_option maxRecDepth 100000
abbrev refO (l : List Rf) : OB := ⟨83, 4, l.map refA⟩
theorem r_tupXX {s : St} {Θ : Tab} {t1 t2 : Nat} {y1 y2 : AV} (h1 : retA s [] (s.sl t1) y1) (h2 : retA s [] (s.sl t2) y2) : RetQ Θ [.tmp t1, .tmp t2] ⟨.tup [y1, y2], []⟩ .ret s :=
  ⟨trivial, [], by simp, trivial, ⟨trivial, trivial, trivial⟩, ⟨_, rfl⟩, ⟨h1, h2, trivial⟩⟩
/-- a reference of another head, one version later -/
def setR (l : List Rf) (j : Nat) (h : Int) (g : Bool) : List Rf := match l[j]? with | some r => l.set j ⟨r.name, h, r.ver + 1, g⟩ | none => l
theorem setR_at {l : List Rf} {j : Nat} (hj : j < l.length) (h : Int) (g : Bool) : setR l j h g = l.set j ⟨l[j].name, h, l[j].ver + 1, g⟩ := by unfold setR; rw [List.getElem?_eq_getElem hj]
theorem setR_length (l : List Rf) (j : Nat) (h : Int) (g : Bool) : (setR l j h g).length = l.length := by unfold setR; split <;> simp
/-- the three changes, of a list that is valid -/
def mkR (l : List Rf) (x : ByteArray) (h : Int) : List Rf × Int :=
  match l[(rAt l x 0).toNat]? with
  | some r => if 0 ≤ rAt l x 0 then (if r.gone = false then (l, 14) else if r.ver = 1000000 then (l, 7) else (setR l (rAt l x 0).toNat h false, 0)) else if l.length = 8 then (l, 7) else (l ++ [⟨x, h, 1, false⟩], 0)
  | none => if l.length = 8 then (l, 7) else (l ++ [⟨x, h, 1, false⟩], 0)
def dlR (l : List Rf) (x : ByteArray) : List Rf × Int :=
  match l[(liveF l x).toNat]? with
  | some r => if 0 ≤ liveF l x then (if r.ver = 1000000 then (l, 7) else (setR l (liveF l x).toNat 0 true, 0)) else (l, 10)
  | none => (l, 10)
def swR (l : List Rf) (x : ByteArray) (v h : Int) : List Rf × Int :=
  match l[(liveF l x).toNat]? with
  | some r => if 0 ≤ liveF l x then (if r.ver ≠ v then (l, 13) else if v = 1000000 then (l, 7) else (setR l (liveF l x).toNat h false, 0)) else (l, 10)
  | none => (l, 10)
theorem mkR_no {l : List Rf} {x : ByteArray} {h : Int} (e : rAt l x 0 < 0) : mkR l x h = if l.length = 8 then (l, 7) else (l ++ [⟨x, h, 1, false⟩], 0) := by
  unfold mkR; split
  · rw [if_neg (by omega)]
  · rfl
theorem mkR_at {l : List Rf} {x : ByteArray} {h : Int} {j : Nat} (hj : j < l.length) (e : rAt l x 0 = (j : Int)) : mkR l x h = if l[j].gone = false then (l, 14) else if l[j].ver = 1000000 then (l, 7) else (setR l j h false, 0) := by
  unfold mkR
  have : l[(rAt l x 0).toNat]? = some l[j] := by rw [e]; simp [hj]
  rw [this, e]; simp
theorem dlR_no {l : List Rf} {x : ByteArray} (e : liveF l x = -1) : dlR l x = (l, 10) := by
  unfold dlR; split
  · rw [if_neg (by omega)]
  · rfl
theorem dlR_at {l : List Rf} {x : ByteArray} {j : Nat} (hj : j < l.length) (e : liveF l x = (j : Int)) : dlR l x = if l[j].ver = 1000000 then (l, 7) else (setR l j 0 true, 0) := by
  unfold dlR
  have : l[(liveF l x).toNat]? = some l[j] := by rw [e]; simp [hj]
  rw [this, e]; simp
theorem swR_no {l : List Rf} {x : ByteArray} {v h : Int} (e : liveF l x = -1) : swR l x v h = (l, 10) := by
  unfold swR; split
  · rw [if_neg (by omega)]
  · rfl
theorem swR_at {l : List Rf} {x : ByteArray} {v h : Int} {j : Nat} (hj : j < l.length) (e : liveF l x = (j : Int)) : swR l x v h = if l[j].ver ≠ v then (l, 13) else if v = 1000000 then (l, 7) else (setR l j h false, 0) := by
  unfold swR
  have : l[(liveF l x).toNat]? = some l[j] := by rw [e]; simp [hj]
  rw [this, e]; simp
noncomputable def createR (l : List Rf) (x : ByteArray) (h : Int) : List Rf × Int := if askF l x = 0 then (if okN x = true then (if 1 ≤ h ∧ h ≤ 60 then mkR l x h else ([], 4)) else ([], 1)) else ([], askF l x)
noncomputable def deleteR (l : List Rf) (x : ByteArray) : List Rf × Int := if askF l x = 0 then dlR l x else ([], askF l x)
noncomputable def swapR (l : List Rf) (x : ByteArray) (v h : Int) : List Rf × Int := if askF l x = 0 then (if 1 ≤ h ∧ h ≤ 60 then swR l x v h else ([], 4)) else ([], askF l x)
theorem mkR_len (l : List Rf) (x : ByteArray) (h : Int) : (mkR l x h).1.length ≤ l.length + 1 := by
  unfold mkR
  repeat' split
  all_goals simp [setR_length]
theorem dlR_len (l : List Rf) (x : ByteArray) : (dlR l x).1.length ≤ l.length := by
  unfold dlR
  repeat' split
  all_goals simp [setR_length]
theorem swR_len (l : List Rf) (x : ByteArray) (v h : Int) : (swR l x v h).1.length ≤ l.length := by
  unfold swR
  repeat' split
  all_goals simp [setR_length]
theorem createR_len (l : List Rf) (x : ByteArray) (h : Int) : (createR l x h).1.length ≤ 9 := by
  unfold createR
  split
  · rename_i h1
    have := (askF_len h1).1
    have := mkR_len l x h
    repeat' split
    all_goals first | omega | simp
  · simp
theorem rf_ver {l : List Rf} (hb : refsB l = true) {j : Nat} (hj : j < l.length) : 1 ≤ l[j].ver ∧ l[j].ver ≤ 1000000 := by
  obtain ⟨_, h1, _⟩ := (refsB_of hb).2 j hj
  unfold refB at h1
  simp only [Bool.and_eq_true, decide_eq_true_eq] at h1
  exact h1.2.1
theorem rAt_names : ∀ (l m : List Rf) (x : ByteArray) (k : Nat), l.map (·.name) = m.map (·.name) → rAt l x k = rAt m x k
  | [], [], _, _, _ => rfl
  | [], _ :: _, _, _, h => by simp at h
  | _ :: _, [], _, _, h => by simp at h
  | a :: l, b :: m, x, k, h => by
    simp only [List.map_cons, List.cons.injEq] at h
    unfold rAt
    rw [h.1, rAt_names l m x (k + 1) h.2]
theorem set_names {l : List Rf} {j : Nat} {y : Rf} (hj : j < l.length) (hy : y.name = l[j].name) : (l.set j y).map (·.name) = l.map (·.name) := by
  rw [List.map_set, hy]
  refine List.ext_getElem (by simp) fun i h1 h2 => ?_
  rw [List.getElem_set]
  split
  · rename_i e; subst e; simp
  · rfl
theorem refsB_set {l : List Rf} (hb : refsB l = true) {j : Nat} {y : Rf} (hj : j < l.length) (hy : y.name = l[j].name) (hr : refB y = true) : refsB (l.set j y) = true := by
  obtain ⟨h1, h2⟩ := refsB_of hb
  have hn := set_names hj hy
  refine refsB_t ⟨by simpa using h1, fun i hi => ?_⟩
  have hi' : i < l.length := by simpa using hi
  obtain ⟨_, a, b⟩ := h2 i hi'
  have e1 : ((l.set j y)[i]).name = l[i].name := by
    have := congrArg (fun q => q[i]?) hn
    simp only [List.getElem?_map, List.getElem?_eq_getElem hi, List.getElem?_eq_getElem hi', Option.map_some] at this
    exact Option.some.inj this
  refine ⟨hi, ?_, ?_⟩
  · rw [List.getElem_set]
    split
    · exact hr
    · exact a
  · rw [e1, rAt_names ((l.set j y).take i) (l.take i) _ _ (by rw [List.map_take, List.map_take, hn])]
    exact b
theorem refB_iff (r : Rf) : refB r = true ↔ okN r.name = true ∧ (1 ≤ r.ver ∧ r.ver ≤ 1000000) ∧ (if r.gone = true then r.head = 0 else 1 ≤ r.head ∧ r.head ≤ 60) := by
  unfold refB
  simp only [Bool.and_eq_true, decide_eq_true_eq]
  constructor
  · rintro ⟨a, b, c⟩; refine ⟨a, b, ?_⟩; split at c <;> simp_all
  · rintro ⟨a, b, c⟩; refine ⟨a, b, ?_⟩; split at c <;> simp_all
/-- what FnRefs's law asks of the three changes -/
theorem refs_facts {l : List Rf} {x : ByteArray} {h : Int} (ha : askF l x = 0) (hver : ∀ r ∈ l, r.ver ≤ 4) (h1 : 1 ≤ h) (h2 : h ≤ 60) {j : Nat} (hj : j < l.length) (hl : liveF l x = (j : Int)) (hr : rAt l x 0 = (j : Int)) (hg : l[j].gone = false) :
    swapR l x l[j].ver h = (setR l j h false, 0) ∧ (swapR (setR l j h false) x l[j].ver h).2 = 13 ∧ deleteR l x = (setR l j 0 true, 0) ∧
    createR (setR l j 0 true) x l[j].head = (setR (setR l j 0 true) j l[j].head false, 0) ∧ (swapR (setR (setR l j 0 true) j l[j].head false) x l[j].ver h).2 = 13 ∧
    loadR (setR l j h false) x = (h, l[j].ver + 1, 0) ∧ loadR (setR l j 0 true) x = (0, 0, 10) := by
  obtain ⟨hlen, hx, hb⟩ := askF_len ha
  have hv := hver _ (List.getElem_mem hj)
  obtain ⟨hv0, _⟩ := rf_ver hb hj
  obtain ⟨_, b1, b2⟩ := (refsB_of hb).2 j hj
  obtain ⟨c1, c2, c3⟩ := (refB_iff _).1 b1
  rw [hg, if_neg (by simp)] at c3
  obtain ⟨_, _, e1, e2⟩ := rAt_lt (l := l) (x := x) (by omega)
  have hname : l[j].name = x := by
    have : (rAt l x 0) = (j : Int) := hr
    rename_i j' hj'
    have : j' = j := by omega
    subst this; exact e2
  have hokx : okN x = true := by rw [← hname]; exact c1
  -- lists with another reference at the place
  have key : ∀ (m : List Rf) (hm : m.length = l.length) (hmn : m.map (·.name) = l.map (·.name)) (hmb : refsB m = true), askF m x = 0 ∧ rAt m x 0 = (j : Int) := fun m hm hmn hmb => by
    refine ⟨askF_ok (by omega) hmb, ?_⟩
    rw [rAt_names m l x 0 hmn]; exact hr
  have s1 := setR_at hj h false
  have s2 := setR_at hj 0 true
  have n1 : (setR l j h false).map (·.name) = l.map (·.name) := by rw [s1]; exact set_names hj rfl
  have n2 : (setR l j 0 true).map (·.name) = l.map (·.name) := by rw [s2]; exact set_names hj rfl
  have o1 : refsB (setR l j h false) = true := by rw [s1]; exact refsB_set hb hj rfl ((refB_iff _).2 ⟨c1, ⟨by simp only; omega, by simp only; omega⟩, by simp; exact ⟨h1, h2⟩⟩)
  have o2 : refsB (setR l j 0 true) = true := by rw [s2]; exact refsB_set hb hj rfl ((refB_iff _).2 ⟨c1, ⟨by simp only; omega, by simp only; omega⟩, by simp⟩)
  have l1 : (setR l j h false).length = l.length := setR_length _ _ _ _
  have l2 : (setR l j 0 true).length = l.length := setR_length _ _ _ _
  have hj1 : j < (setR l j h false).length := by omega
  have hj2 : j < (setR l j 0 true).length := by omega
  have g1 : (setR l j h false)[j] = ⟨l[j].name, h, l[j].ver + 1, false⟩ := by simp [s1]
  have g2 : (setR l j 0 true)[j] = ⟨l[j].name, 0, l[j].ver + 1, true⟩ := by simp [s2]
  obtain ⟨a1, r1⟩ := key _ l1 n1 o1
  obtain ⟨a2, r2⟩ := key _ l2 n2 o2
  have v1 : liveF (setR l j h false) x = (j : Int) := by rw [live_at hj1 r1, g1]; simp
  have v2 : liveF (setR l j 0 true) x = -1 := by rw [live_at hj2 r2, g2]; simp
  have s3 := setR_at hj2 l[j].head false
  have n3 : (setR (setR l j 0 true) j l[j].head false).map (·.name) = l.map (·.name) := by rw [s3]; exact (set_names (y := ⟨(setR l j 0 true)[j].name, l[j].head, (setR l j 0 true)[j].ver + 1, false⟩) hj2 rfl).trans n2
  have o3 : refsB (setR (setR l j 0 true) j l[j].head false) = true := by
    rw [s3]
    refine refsB_set o2 hj2 rfl ((refB_iff _).2 ?_)
    rw [g2]
    exact ⟨c1, ⟨by simp only; omega, by simp only; omega⟩, by simp; exact c3⟩
  have l3 : (setR (setR l j 0 true) j l[j].head false).length = l.length := by rw [setR_length, l2]
  have hj3 : j < (setR (setR l j 0 true) j l[j].head false).length := by omega
  have g3 : (setR (setR l j 0 true) j l[j].head false)[j] = ⟨l[j].name, l[j].head, l[j].ver + 1 + 1, false⟩ := by simp [s3, g2]
  obtain ⟨a3, r3⟩ := key _ l3 n3 o3
  have v3 : liveF (setR (setR l j 0 true) j l[j].head false) x = (j : Int) := by rw [live_at hj3 r3, g3]; simp
  refine ⟨?_, ?_, ?_, ?_, ?_, ?_, ?_⟩
  · unfold swapR; rw [if_pos ha, if_pos ⟨h1, h2⟩, swR_at hj hl, if_neg (by simp), if_neg (by omega)]
  · unfold swapR; rw [if_pos a1, if_pos ⟨h1, h2⟩, swR_at hj1 v1, g1, if_pos (by simp only; omega)]
  · unfold deleteR; rw [if_pos ha, dlR_at hj hl, if_neg (by omega)]
  · unfold createR; rw [if_pos a2, if_pos hokx, if_pos c3, mkR_at hj2 r2, g2, if_neg (by simp), if_neg (by simp only; omega)]
  · unfold swapR; rw [if_pos a3, if_pos ⟨h1, h2⟩, swR_at hj3 v3, g3, if_pos (by simp only; omega)]
  · rw [loadR_at a1 hj1 v1, g1]
  · exact loadR_no a2 v2
theorem create_live {l : List Rf} {x : ByteArray} {h : Int} (ha : askF l x = 0) (hx : okN x = true) (h1 : 1 ≤ h) (h2 : h ≤ 60) {j : Nat} (hj : j < l.length) (hr : rAt l x 0 = (j : Int)) (hg : l[j].gone = false) : createR l x h = (l, 14) := by
  unfold createR; rw [if_pos ha, if_pos hx, if_pos ⟨h1, h2⟩, mkR_at hj hr, if_pos hg]
theorem create_dead {l : List Rf} {x : ByteArray} {h : Int} (ha : askF l x = 0) (hx : okN x = true) (h1 : 1 ≤ h) (h2 : h ≤ 60) (hl : liveF l x = -1) : (createR l x h).2 ≠ 14 := by
  unfold createR; rw [if_pos ha, if_pos hx, if_pos ⟨h1, h2⟩]
  by_cases h0 : rAt l x 0 < 0
  · rw [mkR_no h0]; split <;> simp
  · obtain ⟨j, hj, e, _⟩ := rAt_lt (by omega : 0 ≤ rAt l x 0)
    have := live_at hj e
    rw [mkR_at hj e]
    cases hg : l[j].gone with
    | false => rw [hg, if_neg (by simp)] at this; omega
    | true => rw [if_neg (by simp)]; split <;> simp
/-- references as the draws make them -/
def names6 : List ByteArray := [⟨#[109, 97, 105, 110]⟩, ⟨#[100, 101, 118]⟩, ⟨#[102, 105, 120]⟩, ⟨#[111, 108, 100]⟩, ⟨#[98, 49]⟩, ⟨#[98, 50]⟩]
structure GoodR (l : List Rf) : Prop where
  ok : refsB l = true
  small : ∀ r ∈ l, r.ver ≤ 4 ∧ r.name.size ≤ 12
theorem GoodR.nil : GoodR [] := ⟨refsB_t ⟨by simp, fun i h => by simp at h⟩, by simp⟩
theorem GoodR.snoc {l : List Rf} (h : GoodR l) (hl : l.length < 8) {r : Rf} (hr : refB r = true) (hv : r.ver ≤ 4) (hs : r.name.size ≤ 12) (hn : rAt l r.name 0 < 0) : GoodR (l ++ [r]) := by
  obtain ⟨_, h2⟩ := refsB_of h.ok
  refine ⟨refsB_t ⟨by simp; omega, fun i hi => ?_⟩, fun x hx => ?_⟩
  · rcases Nat.lt_or_ge i l.length with q | q
    · obtain ⟨_, a, b⟩ := h2 i q
      refine ⟨hi, by rw [List.getElem_append_left q]; exact a, ?_⟩
      rw [List.getElem_append_left q, List.take_append_of_le_length (by omega)]; exact b
    · have : i = l.length := by simp at hi; omega
      subst this
      refine ⟨hi, by simpa using hr, ?_⟩
      have e : (l ++ [r])[l.length] = r := by simp
      rw [e, List.take_append_of_le_length (by omega), List.take_length]; exact hn
  · rcases List.mem_append.1 hx with hx | hx
    · exact h.small x hx
    · rw [List.mem_singleton.1 hx]; exact ⟨hv, hs⟩
attribute [local irreducible] ACode AOps AOps2 RetG RetM Pre ACG
theorem ac_l04Set {l : List Rf} {j : Nat} {h : Int} {g : Bool} (hj : j < l.length) (hm : l.length ≤ 1048576) (hv : 0 ≤ l[j].ver) (hv' : l[j].ver ≤ 1000000) : AC Try.prog 230 [.lst 4 (l.map refA), .v (.int .i64 (j : Int)), .v (.int .i64 h), .v (.bool g)] ⟨.own 0, [refO (setR l j h g)]⟩ := by
  rw [setR_at hj]
  have hq : (l.map refA)[j]? = some (refA l[j]) := by simp [hj]
  refine r_of Th_ok (by kernel_rfl) Try.func230 rfl Try.ntmps230 Try.results230 (by kernel_rfl) rfl ?_; conv => whnf
  repeat (first | ((first | refine qb rfl rfl ?_ | refine qi (by assumption) rfl rfl ?_ | refine ql rfl ?_ | refine qo rfl rfl ?_ | refine qs rfl rfl ?_ | refine qn rfl rfl ?_); conv => whnf) | (refine .inl (And.intro (by kernel_rfl) ?_); conv => whnf) | (refine r_step (p_appl (xs := ([] : List Rf)) (ys := l) (f := refA) (by simp; omega) rfl rfl rfl rfl rfl rfl) rfl rfl (fun e => by first | exact .inl rfl | contradiction | exact .inr (.inl (by kernel_rfl))) ?_; conv => whnf))
  repeat (first | refine o_put (p_oidx (by simpa using hj) rfl rfl rfl rfl rfl) rfl rfl ?_ | refine o_put (p_ofld rfl rfl rfl) rfl rfl ?_ | (refine r_put (p_bin (b_add (c := l[j].ver + 1) rfl (by omega) (by omega)) rfl rfl rfl) rfl rfl ?_; conv => whnf) | (refine r_put (p_old rfl rfl (set_at (by simpa using hj)) rfl rfl rfl rfl) rfl rfl ?_; conv => whnf) | (refine r_step (p_ostore hq rfl rfl rfl rfl rfl rfl) rfl rfl (fun e => by first | exact .inl rfl | contradiction | exact .inr (.inl (by kernel_rfl))) ?_; conv => whnf) | (refine r_step (p_ostore (set_at (by simpa using hj)) rfl rfl rfl rfl rfl rfl) rfl rfl (fun e => by first | exact .inl rfl | contradiction | exact .inr (.inl (by kernel_rfl))) ?_; conv => whnf) | ((first | refine qb rfl rfl ?_ | refine qi (by assumption) rfl rfl ?_ | refine ql rfl ?_ | refine qo rfl rfl ?_ | refine qs rfl rfl ?_ | refine qn rfl rfl ?_); conv => whnf))
  refine r_own1 rfl (congrArg (fun x => some (OB.mk (ET.s 83) 4 x)) (?_ : (((([] ++ l).map refA).set j _).set j _).set j _ = (l.set j _).map refA))
  rw [List.set_set, List.set_set, List.map_set]; rfl
theorem ac_l04Create {l : List Rf} {x : ByteArray} {h : Int} (hm : l.length ≤ 1048576) (hb : refsB l = true) : AC Try.prog 156 [.lst 4 (l.map refA), .v (.string x), .v (.int .i64 h)] ⟨.tup [.lst 4 ((mkR l x h).1.map refA), .v (.int .i64 (mkR l x h).2)], []⟩ := by
  have h1 := ac_l04At (l := l) (x := x) (by unfold maxLen; omega)
  have hge := @rAt_ge l x
  by_cases h0 : rAt l x 0 < 0
  · rw [mkR_no h0]
    have e : rAt l x 0 = -1 := by omega
    rw [e] at h1
    by_cases h8 : l.length = 8
    · rw [if_pos h8]
      refine r_of Th_ok (by kernel_rfl) Try.func156 rfl Try.ntmps156 Try.results156 (by kernel_rfl) rfl ?_; conv => whnf
      repeat (first | ((first | refine qb rfl rfl ?_ | refine qi (by assumption) rfl rfl ?_ | refine ql rfl ?_ | refine qo rfl rfl ?_ | refine qs rfl rfl ?_ | refine qn rfl rfl ?_); conv => whnf) | (refine .inl (And.intro (by kernel_rfl) ?_); conv => whnf) | (refine qc (h1) rfl ?_; conv => whnf))
      exact r_tupXX (ra_x rfl trivial) (ra_x rfl trivial)
    · rw [if_neg h8]
      refine r_of Th_ok (by kernel_rfl) Try.func156 rfl Try.ntmps156 Try.results156 (by kernel_rfl) rfl ?_; conv => whnf
      repeat (first | ((first | refine qb rfl rfl ?_ | refine qi (by assumption) rfl rfl ?_ | refine ql rfl ?_ | refine qo rfl rfl ?_ | refine qs rfl rfl ?_ | refine qn rfl rfl ?_); conv => whnf) | (refine .inl (And.intro (by kernel_rfl) ?_); conv => whnf) | (refine qc (h1) rfl ?_; conv => whnf) | (refine r_step (p_appl (xs := ([] : List Rf)) (ys := l) (f := refA) (by simp; omega) rfl rfl rfl rfl rfl rfl) rfl rfl (fun e => by first | exact .inl rfl | contradiction | exact .inr (.inl (by kernel_rfl))) ?_; conv => whnf) | (refine r_step (p_app1r (f := refA) (xs := l) ⟨x, h, 1, false⟩ (l ++ [⟨x, h, 1, false⟩]) rfl (by omega) rfl rfl rfl rfl rfl rfl rfl) rfl rfl (fun e => by first | exact .inl rfl | contradiction | exact .inr (.inl (by kernel_rfl))) ?_; conv => whnf))
      exact r_tupXX (ra_o rfl rfl) (ra_x rfl trivial)
  · obtain ⟨j, hj, e, _⟩ := rAt_lt (by omega : 0 ≤ rAt l x 0)
    rw [mkR_at hj e]
    rw [e] at h1
    obtain ⟨v0, v1⟩ := rf_ver hb hj
    have hs := ac_l04Set (h := h) (g := false) hj hm (by omega) v1
    cases hg : l[j].gone with
    | false =>
      rw [if_pos rfl]
      refine r_of Th_ok (by kernel_rfl) Try.func156 rfl Try.ntmps156 Try.results156 (by kernel_rfl) rfl ?_; conv => whnf
      repeat (first | ((first | refine qb rfl rfl ?_ | refine qi (by assumption) rfl rfl ?_ | refine ql rfl ?_ | refine qo rfl rfl ?_ | refine qs rfl rfl ?_ | refine qn rfl rfl ?_); conv => whnf) | (refine .inl (And.intro (by kernel_rfl) ?_); conv => whnf) | (refine qc (h1) rfl ?_; conv => whnf) | (rw [hg]; conv => whnf))
      exact r_tupXX (ra_x rfl trivial) (ra_x rfl trivial)
    | true =>
      rw [if_neg (by simp)]
      by_cases hv : l[j].ver = 1000000
      · rw [if_pos hv]
        refine r_of Th_ok (by kernel_rfl) Try.func156 rfl Try.ntmps156 Try.results156 (by kernel_rfl) rfl ?_; conv => whnf
        repeat (first | ((first | refine qb rfl rfl ?_ | refine qi (by assumption) rfl rfl ?_ | refine ql rfl ?_ | refine qo rfl rfl ?_ | refine qs rfl rfl ?_ | refine qn rfl rfl ?_); conv => whnf) | (refine .inl (And.intro (by kernel_rfl) ?_); conv => whnf) | (refine qc (h1) rfl ?_; conv => whnf) | (rw [hg]; conv => whnf))
        exact r_tupXX (ra_x rfl trivial) (ra_x rfl trivial)
      · rw [if_neg hv]
        refine r_of Th_ok (by kernel_rfl) Try.func156 rfl Try.ntmps156 Try.results156 (by kernel_rfl) rfl ?_; conv => whnf
        repeat (first | ((first | refine qb rfl rfl ?_ | refine qi (by assumption) rfl rfl ?_ | refine ql rfl ?_ | refine qo rfl rfl ?_ | refine qs rfl rfl ?_ | refine qn rfl rfl ?_); conv => whnf) | (refine .inl (And.intro (by kernel_rfl) ?_); conv => whnf) | (refine qc (h1) rfl ?_; conv => whnf) | (refine qc (hs) rfl ?_; conv => whnf) | (rw [hg]; conv => whnf))
        exact r_tupXX (ra_o rfl rfl) (ra_x rfl trivial)
theorem ac_l04Delete {l : List Rf} {x : ByteArray} (hm : l.length ≤ 1048576) (hb : refsB l = true) : AC Try.prog 163 [.lst 4 (l.map refA), .v (.string x)] ⟨.tup [.lst 4 ((dlR l x).1.map refA), .v (.int .i64 (dlR l x).2)], []⟩ := by
  have h1 := ac_l04Live (l := l) (x := x) (by unfold maxLen; omega)
  rcases live_cases l x with e | ⟨j, hj, e, _, _⟩
  · rw [dlR_no e]
    rw [e] at h1
    refine r_of Th_ok (by kernel_rfl) Try.func163 rfl Try.ntmps163 Try.results163 (by kernel_rfl) rfl ?_; conv => whnf
    repeat (first | ((first | refine qb rfl rfl ?_ | refine qi (by assumption) rfl rfl ?_ | refine ql rfl ?_ | refine qo rfl rfl ?_ | refine qs rfl rfl ?_ | refine qn rfl rfl ?_); conv => whnf) | (refine .inl (And.intro (by kernel_rfl) ?_); conv => whnf) | (refine qc (h1) rfl ?_; conv => whnf))
    exact r_tupXX (ra_x rfl trivial) (ra_x rfl trivial)
  · rw [dlR_at hj e]
    rw [e] at h1
    obtain ⟨v0, v1⟩ := rf_ver hb hj
    have hs := ac_l04Set (h := 0) (g := true) hj hm (by omega) v1
    by_cases hv : l[j].ver = 1000000
    · rw [if_pos hv]
      refine r_of Th_ok (by kernel_rfl) Try.func163 rfl Try.ntmps163 Try.results163 (by kernel_rfl) rfl ?_; conv => whnf
      repeat (first | ((first | refine qb rfl rfl ?_ | refine qi (by assumption) rfl rfl ?_ | refine ql rfl ?_ | refine qo rfl rfl ?_ | refine qs rfl rfl ?_ | refine qn rfl rfl ?_); conv => whnf) | (refine .inl (And.intro (by kernel_rfl) ?_); conv => whnf) | (refine qc (h1) rfl ?_; conv => whnf))
      exact r_tupXX (ra_x rfl trivial) (ra_x rfl trivial)
    · rw [if_neg hv]
      refine r_of Th_ok (by kernel_rfl) Try.func163 rfl Try.ntmps163 Try.results163 (by kernel_rfl) rfl ?_; conv => whnf
      repeat (first | ((first | refine qb rfl rfl ?_ | refine qi (by assumption) rfl rfl ?_ | refine ql rfl ?_ | refine qo rfl rfl ?_ | refine qs rfl rfl ?_ | refine qn rfl rfl ?_); conv => whnf) | (refine .inl (And.intro (by kernel_rfl) ?_); conv => whnf) | (refine qc (h1) rfl ?_; conv => whnf) | (refine qc (hs) rfl ?_; conv => whnf))
      exact r_tupXX (ra_o rfl rfl) (ra_x rfl trivial)
theorem ac_l04Swap {l : List Rf} {x : ByteArray} {v h : Int} (hm : l.length ≤ 1048576) (hb : refsB l = true) : AC Try.prog 165 [.lst 4 (l.map refA), .v (.string x), .v (.int .i64 v), .v (.int .i64 h)] ⟨.tup [.lst 4 ((swR l x v h).1.map refA), .v (.int .i64 (swR l x v h).2)], []⟩ := by
  have h1 := ac_l04Live (l := l) (x := x) (by unfold maxLen; omega)
  rcases live_cases l x with e | ⟨j, hj, e, _, _⟩
  · rw [swR_no e]
    rw [e] at h1
    refine r_of Th_ok (by kernel_rfl) Try.func165 rfl Try.ntmps165 Try.results165 (by kernel_rfl) rfl ?_; conv => whnf
    repeat (first | ((first | refine qb rfl rfl ?_ | refine qi (by assumption) rfl rfl ?_ | refine ql rfl ?_ | refine qo rfl rfl ?_ | refine qs rfl rfl ?_ | refine qn rfl rfl ?_); conv => whnf) | (refine .inl (And.intro (by kernel_rfl) ?_); conv => whnf) | (refine qc (h1) rfl ?_; conv => whnf))
    exact r_tupXX (ra_x rfl trivial) (ra_x rfl trivial)
  · rw [swR_at hj e]
    rw [e] at h1
    obtain ⟨v0, v1⟩ := rf_ver hb hj
    have hs := ac_l04Set (h := h) (g := false) hj hm (by omega) v1
    by_cases hv : l[j].ver = v
    · rw [if_neg (by omega)]
      by_cases hx : v = 1000000
      · rw [if_pos hx]
        refine r_of Th_ok (by kernel_rfl) Try.func165 rfl Try.ntmps165 Try.results165 (by kernel_rfl) rfl ?_; conv => whnf
        repeat (first | ((first | refine qb rfl rfl ?_ | refine qi (by assumption) rfl rfl ?_ | refine ql rfl ?_ | refine qo rfl rfl ?_ | refine qs rfl rfl ?_ | refine qn rfl rfl ?_); conv => whnf) | (refine .inl (And.intro (by kernel_rfl) ?_); conv => whnf) | (refine qc (h1) rfl ?_; conv => whnf))
        exact r_tupXX (ra_x rfl trivial) (ra_x rfl trivial)
      · rw [if_neg hx]
        refine r_of Th_ok (by kernel_rfl) Try.func165 rfl Try.ntmps165 Try.results165 (by kernel_rfl) rfl ?_; conv => whnf
        repeat (first | ((first | refine qb rfl rfl ?_ | refine qi (by assumption) rfl rfl ?_ | refine ql rfl ?_ | refine qo rfl rfl ?_ | refine qs rfl rfl ?_ | refine qn rfl rfl ?_); conv => whnf) | (refine .inl (And.intro (by kernel_rfl) ?_); conv => whnf) | (refine qc (h1) rfl ?_; conv => whnf) | (refine qc (hs) rfl ?_; conv => whnf))
        exact r_tupXX (ra_o rfl rfl) (ra_x rfl trivial)
    · rw [if_pos hv]
      refine r_of Th_ok (by kernel_rfl) Try.func165 rfl Try.ntmps165 Try.results165 (by kernel_rfl) rfl ?_; conv => whnf
      repeat (first | ((first | refine qb rfl rfl ?_ | refine qi (by assumption) rfl rfl ?_ | refine ql rfl ?_ | refine qo rfl rfl ?_ | refine qs rfl rfl ?_ | refine qn rfl rfl ?_); conv => whnf) | (refine .inl (And.intro (by kernel_rfl) ?_); conv => whnf) | (refine qc (h1) rfl ?_; conv => whnf))
      exact r_tupXX (ra_x rfl trivial) (ra_x rfl trivial)
theorem askF_no {l : List Rf} {x : ByteArray} (h : askF l x = 0) : ¬ 4096 < l.length ∧ ¬ 65536 < x.size := by
  refine ⟨fun q => ?_, fun q => ?_⟩
  · rw [askF_long (.inl q)] at h; cases h
  · rw [askF_long (.inr q)] at h; cases h
theorem ac_sCreate {l : List Rf} {x : ByteArray} {h : Int} (hm : l.length ≤ maxLen) (hk : nmOK maxLen l) (hx : x.size ≤ maxLen) : AC Try.prog 49 [.lst 4 (l.map refA), .v (.string x), .v (.int .i64 h)] ⟨.tup [.own 0, .v (.int .i64 (createR l x h).2)], [refO (createR l x h).1]⟩ := by
  have hm' := hm
  have hx' := hx
  unfold maxLen at hm' hx'
  have h1 := ac_l04Ask hm hk hx
  unfold createR
  by_cases ha : askF l x = 0
  case neg =>
    rw [if_neg ha]
    by_cases a1 : 4096 < l.length
    · rw [askF_long (.inl a1)]
      refine r_of Th_ok (by kernel_rfl) Try.func49 rfl Try.ntmps49 Try.results49 (by kernel_rfl) rfl ?_; conv => whnf
      repeat (first | ((first | refine qb rfl rfl ?_ | refine qi (by assumption) rfl rfl ?_ | refine ql rfl ?_ | refine qo rfl rfl ?_ | refine qs rfl rfl ?_ | refine qn rfl rfl ?_); conv => whnf) | (refine .inl (And.intro (by kernel_rfl) ?_); conv => whnf))
      exact r_tupOV rfl rfl rfl
    by_cases a2 : 65536 < x.size
    · rw [askF_long (.inr a2)]
      refine r_of Th_ok (by kernel_rfl) Try.func49 rfl Try.ntmps49 Try.results49 (by kernel_rfl) rfl ?_; conv => whnf
      repeat (first | ((first | refine qb rfl rfl ?_ | refine qi (by assumption) rfl rfl ?_ | refine ql rfl ?_ | refine qo rfl rfl ?_ | refine qs rfl rfl ?_ | refine qn rfl rfl ?_); conv => whnf) | (refine .inl (And.intro (by kernel_rfl) ?_); conv => whnf))
      exact r_tupOV rfl rfl rfl
    generalize askF l x = c at *
    refine r_of Th_ok (by kernel_rfl) Try.func49 rfl Try.ntmps49 Try.results49 (by kernel_rfl) rfl ?_; conv => whnf
    repeat (first | ((first | refine qb rfl rfl ?_ | refine qi (by assumption) rfl rfl ?_ | refine ql rfl ?_ | refine qo rfl rfl ?_ | refine qs rfl rfl ?_ | refine qn rfl rfl ?_); conv => whnf) | (refine .inl (And.intro (by kernel_rfl) ?_); conv => whnf) | (refine qc (h1) rfl ?_; conv => whnf))
    exact r_tupOV rfl rfl rfl
  rw [if_pos ha]
  obtain ⟨a1, a2⟩ := askF_no ha
  obtain ⟨hl8, _, hb⟩ := askF_len ha
  rw [ha] at h1
  cases hn : okN x with
  | false =>
    have h2 := ac_l00Word hx hn
    rw [if_neg (by simp)]
    refine r_of Th_ok (by kernel_rfl) Try.func49 rfl Try.ntmps49 Try.results49 (by kernel_rfl) rfl ?_; conv => whnf
    repeat (first | ((first | refine qb rfl rfl ?_ | refine qi (by assumption) rfl rfl ?_ | refine ql rfl ?_ | refine qo rfl rfl ?_ | refine qs rfl rfl ?_ | refine qn rfl rfl ?_); conv => whnf) | (refine .inl (And.intro (by kernel_rfl) ?_); conv => whnf) | (refine qc (h1) rfl ?_; conv => whnf) | (refine qc (h2) rfl ?_; conv => whnf))
    exact r_tupOV rfl rfl rfl
  | true =>
    have h2 := ac_l00Word hx hn
    rw [if_pos rfl]
    by_cases hh : 1 ≤ h ∧ h ≤ 60
    · rw [if_pos hh]
      have h3 := ac_in_t hh.1 hh.2
      have h4 := ac_l04Create (x := x) (h := h) (by omega) hb
      have hlen := mkR_len l x h
      generalize mkR l x h = R at h4 hlen ⊢
      refine r_of Th_ok (by kernel_rfl) Try.func49 rfl Try.ntmps49 Try.results49 (by kernel_rfl) rfl ?_; conv => whnf
      repeat (first | ((first | refine qb rfl rfl ?_ | refine qi (by assumption) rfl rfl ?_ | refine ql rfl ?_ | refine qo rfl rfl ?_ | refine qs rfl rfl ?_ | refine qn rfl rfl ?_); conv => whnf) | (refine .inl (And.intro (by kernel_rfl) ?_); conv => whnf) | (refine qc (h1) rfl ?_; conv => whnf) | (refine qc (h2) rfl ?_; conv => whnf) | (refine qc (h3) rfl ?_; conv => whnf) | (refine qf (h4) rfl ?_; conv => whnf) | (refine r_step (p_appl (xs := ([] : List Rf)) (ys := R.1) (f := refA) (by simp; omega) rfl rfl rfl rfl rfl rfl) rfl rfl (fun e => by first | exact .inl rfl | contradiction | exact .inr (.inl (by kernel_rfl))) ?_; conv => whnf))
      exact r_tupOV rfl rfl rfl
    · rw [if_neg hh]
      have h3 := ac_in_f hh
      refine r_of Th_ok (by kernel_rfl) Try.func49 rfl Try.ntmps49 Try.results49 (by kernel_rfl) rfl ?_; conv => whnf
      repeat (first | ((first | refine qb rfl rfl ?_ | refine qi (by assumption) rfl rfl ?_ | refine ql rfl ?_ | refine qo rfl rfl ?_ | refine qs rfl rfl ?_ | refine qn rfl rfl ?_); conv => whnf) | (refine .inl (And.intro (by kernel_rfl) ?_); conv => whnf) | (refine qc (h1) rfl ?_; conv => whnf) | (refine qc (h2) rfl ?_; conv => whnf) | (refine qc (h3) rfl ?_; conv => whnf))
      exact r_tupOV rfl rfl rfl
theorem ac_sDelete {l : List Rf} {x : ByteArray} (hm : l.length ≤ maxLen) (hk : nmOK maxLen l) (hx : x.size ≤ maxLen) : AC Try.prog 55 [.lst 4 (l.map refA), .v (.string x)] ⟨.tup [.own 0, .v (.int .i64 (deleteR l x).2)], [refO (deleteR l x).1]⟩ := by
  have hm' := hm
  have hx' := hx
  unfold maxLen at hm' hx'
  have h1 := ac_l04Ask hm hk hx
  unfold deleteR
  by_cases ha : askF l x = 0
  case neg =>
    rw [if_neg ha]
    by_cases a1 : 4096 < l.length
    · rw [askF_long (.inl a1)]
      refine r_of Th_ok (by kernel_rfl) Try.func55 rfl Try.ntmps55 Try.results55 (by kernel_rfl) rfl ?_; conv => whnf
      repeat (first | ((first | refine qb rfl rfl ?_ | refine qi (by assumption) rfl rfl ?_ | refine ql rfl ?_ | refine qo rfl rfl ?_ | refine qs rfl rfl ?_ | refine qn rfl rfl ?_); conv => whnf) | (refine .inl (And.intro (by kernel_rfl) ?_); conv => whnf))
      exact r_tupOV rfl rfl rfl
    by_cases a2 : 65536 < x.size
    · rw [askF_long (.inr a2)]
      refine r_of Th_ok (by kernel_rfl) Try.func55 rfl Try.ntmps55 Try.results55 (by kernel_rfl) rfl ?_; conv => whnf
      repeat (first | ((first | refine qb rfl rfl ?_ | refine qi (by assumption) rfl rfl ?_ | refine ql rfl ?_ | refine qo rfl rfl ?_ | refine qs rfl rfl ?_ | refine qn rfl rfl ?_); conv => whnf) | (refine .inl (And.intro (by kernel_rfl) ?_); conv => whnf))
      exact r_tupOV rfl rfl rfl
    generalize askF l x = c at *
    refine r_of Th_ok (by kernel_rfl) Try.func55 rfl Try.ntmps55 Try.results55 (by kernel_rfl) rfl ?_; conv => whnf
    repeat (first | ((first | refine qb rfl rfl ?_ | refine qi (by assumption) rfl rfl ?_ | refine ql rfl ?_ | refine qo rfl rfl ?_ | refine qs rfl rfl ?_ | refine qn rfl rfl ?_); conv => whnf) | (refine .inl (And.intro (by kernel_rfl) ?_); conv => whnf) | (refine qc (h1) rfl ?_; conv => whnf))
    exact r_tupOV rfl rfl rfl
  rw [if_pos ha]
  obtain ⟨a1, a2⟩ := askF_no ha
  obtain ⟨hl8, _, hb⟩ := askF_len ha
  rw [ha] at h1
  have h4 := ac_l04Delete (x := x) (by omega) hb
  have hlen := dlR_len l x
  generalize dlR l x = R at h4 hlen ⊢
  refine r_of Th_ok (by kernel_rfl) Try.func55 rfl Try.ntmps55 Try.results55 (by kernel_rfl) rfl ?_; conv => whnf
  repeat (first | ((first | refine qb rfl rfl ?_ | refine qi (by assumption) rfl rfl ?_ | refine ql rfl ?_ | refine qo rfl rfl ?_ | refine qs rfl rfl ?_ | refine qn rfl rfl ?_); conv => whnf) | (refine .inl (And.intro (by kernel_rfl) ?_); conv => whnf) | (refine qc (h1) rfl ?_; conv => whnf) | (refine qf (h4) rfl ?_; conv => whnf) | (refine r_step (p_appl (xs := ([] : List Rf)) (ys := R.1) (f := refA) (by simp; omega) rfl rfl rfl rfl rfl rfl) rfl rfl (fun e => by first | exact .inl rfl | contradiction | exact .inr (.inl (by kernel_rfl))) ?_; conv => whnf))
  exact r_tupOV rfl rfl rfl
theorem ac_sSwap {l : List Rf} {x : ByteArray} {v h : Int} (hm : l.length ≤ maxLen) (hk : nmOK maxLen l) (hx : x.size ≤ maxLen) : AC Try.prog 57 [.lst 4 (l.map refA), .v (.string x), .v (.int .i64 v), .v (.int .i64 h)] ⟨.tup [.own 0, .v (.int .i64 (swapR l x v h).2)], [refO (swapR l x v h).1]⟩ := by
  have hm' := hm
  have hx' := hx
  unfold maxLen at hm' hx'
  have h1 := ac_l04Ask hm hk hx
  unfold swapR
  by_cases ha : askF l x = 0
  case neg =>
    rw [if_neg ha]
    by_cases a1 : 4096 < l.length
    · rw [askF_long (.inl a1)]
      refine r_of Th_ok (by kernel_rfl) Try.func57 rfl Try.ntmps57 Try.results57 (by kernel_rfl) rfl ?_; conv => whnf
      repeat (first | ((first | refine qb rfl rfl ?_ | refine qi (by assumption) rfl rfl ?_ | refine ql rfl ?_ | refine qo rfl rfl ?_ | refine qs rfl rfl ?_ | refine qn rfl rfl ?_); conv => whnf) | (refine .inl (And.intro (by kernel_rfl) ?_); conv => whnf))
      exact r_tupOV rfl rfl rfl
    by_cases a2 : 65536 < x.size
    · rw [askF_long (.inr a2)]
      refine r_of Th_ok (by kernel_rfl) Try.func57 rfl Try.ntmps57 Try.results57 (by kernel_rfl) rfl ?_; conv => whnf
      repeat (first | ((first | refine qb rfl rfl ?_ | refine qi (by assumption) rfl rfl ?_ | refine ql rfl ?_ | refine qo rfl rfl ?_ | refine qs rfl rfl ?_ | refine qn rfl rfl ?_); conv => whnf) | (refine .inl (And.intro (by kernel_rfl) ?_); conv => whnf))
      exact r_tupOV rfl rfl rfl
    generalize askF l x = c at *
    refine r_of Th_ok (by kernel_rfl) Try.func57 rfl Try.ntmps57 Try.results57 (by kernel_rfl) rfl ?_; conv => whnf
    repeat (first | ((first | refine qb rfl rfl ?_ | refine qi (by assumption) rfl rfl ?_ | refine ql rfl ?_ | refine qo rfl rfl ?_ | refine qs rfl rfl ?_ | refine qn rfl rfl ?_); conv => whnf) | (refine .inl (And.intro (by kernel_rfl) ?_); conv => whnf) | (refine qc (h1) rfl ?_; conv => whnf))
    exact r_tupOV rfl rfl rfl
  rw [if_pos ha]
  obtain ⟨a1, a2⟩ := askF_no ha
  obtain ⟨hl8, _, hb⟩ := askF_len ha
  rw [ha] at h1
  by_cases hh : 1 ≤ h ∧ h ≤ 60
  · rw [if_pos hh]
    have h3 := ac_in_t hh.1 hh.2
    have h4 := ac_l04Swap (x := x) (v := v) (h := h) (by omega) hb
    have hlen := swR_len l x v h
    generalize swR l x v h = R at h4 hlen ⊢
    refine r_of Th_ok (by kernel_rfl) Try.func57 rfl Try.ntmps57 Try.results57 (by kernel_rfl) rfl ?_; conv => whnf
    repeat (first | ((first | refine qb rfl rfl ?_ | refine qi (by assumption) rfl rfl ?_ | refine ql rfl ?_ | refine qo rfl rfl ?_ | refine qs rfl rfl ?_ | refine qn rfl rfl ?_); conv => whnf) | (refine .inl (And.intro (by kernel_rfl) ?_); conv => whnf) | (refine qc (h1) rfl ?_; conv => whnf) | (refine qc (h3) rfl ?_; conv => whnf) | (refine qf (h4) rfl ?_; conv => whnf) | (refine r_step (p_appl (xs := ([] : List Rf)) (ys := R.1) (f := refA) (by simp; omega) rfl rfl rfl rfl rfl rfl) rfl rfl (fun e => by first | exact .inl rfl | contradiction | exact .inr (.inl (by kernel_rfl))) ?_; conv => whnf))
    exact r_tupOV rfl rfl rfl
  · rw [if_neg hh]
    have h3 := ac_in_f hh
    refine r_of Th_ok (by kernel_rfl) Try.func57 rfl Try.ntmps57 Try.results57 (by kernel_rfl) rfl ?_; conv => whnf
    repeat (first | ((first | refine qb rfl rfl ?_ | refine qi (by assumption) rfl rfl ?_ | refine ql rfl ?_ | refine qo rfl rfl ?_ | refine qs rfl rfl ?_ | refine qn rfl rfl ?_); conv => whnf) | (refine .inl (And.intro (by kernel_rfl) ?_); conv => whnf) | (refine qc (h1) rfl ?_; conv => whnf) | (refine qc (h3) rfl ?_; conv => whnf))
    exact r_tupOV rfl rfl rfl
end Go.Proofs.Ytjhimcddgkoghaa.AM
namespace Go.Proofs.Ytjhimcddgkoghaa.AM
open Go Go.RowKit
set_option linter.unusedVariables false
set_option linter.unusedSimpArgs false
set_option maxRecDepth 100000
theorem swpR_len (l : List Rf) (j : Nat) (e : Rf) (hd : Int) : (swpR l j e hd).1.length = l.length := by
  unfold swpR
  repeat' split
  all_goals simp
theorem swp_self {l : List Rf} {j : Nat} (hj : j < l.length) (h : Int) : swpR l j l[j] h = if l[j].ver = 1000000 then (l, 7) else (setR l j h (decide (h = 0)), 0) := by
  have e : l.getD j ⟨ByteArray.empty, 0, 0, false⟩ = l[j] := by simp [hj]
  unfold swpR; rw [e, if_pos rfl, setR_at hj]
theorem swp_ver {l : List Rf} {j : Nat} (hj : j < l.length) (v h : Int) (hg : l[j].gone = false) (h1 : 1 ≤ h) : swpR l j ⟨l[j].name, l[j].head, v, l[j].gone⟩ h = if l[j].ver ≠ v then (l, 13) else if v = 1000000 then (l, 7) else (setR l j h false, 0) := by
  have e : l.getD j ⟨ByteArray.empty, 0, 0, false⟩ = l[j] := by simp [hj]
  unfold swpR; rw [e, setR_at hj]
  by_cases hv : l[j].ver = v
  · have e2 : l[j] = ⟨l[j].name, l[j].head, v, l[j].gone⟩ := by rw [← hv]
    rw [if_pos e2, show decide (h = 0) = false from decide_eq_false (by omega)]
    simp [hv]
  · have e2 : ¬ l[j] = ⟨l[j].name, l[j].head, v, l[j].gone⟩ := fun q => hv (congrArg Rf.ver q)
    rw [if_neg e2, if_pos hv]
theorem ent_161 : ∀ vs w, (callFunc 161 vs).run Try.prog w = .ok (.enter 161 vs) w := ent_of Try.func161 (by kernel_rfl) (by kernel_rfl)
theorem ac_swapAt {l : List Rf} {j : Nat} {e : Rf} {hd : Int} (hj : j < l.length) (h8 : l.length ≤ 8) (hlv : 0 ≤ l[j].ver ∧ l[j].ver ≤ 1000000) : AC Try.prog 161 [.lst 4 (l.map refA), .v (.int .i64 (j : Int)), refA e, .v (.int .i64 hd)] ⟨.tup [.own 0, .v (.int .i64 (swpR l j e hd).2)], [refO (swpR l j e hd).1]⟩ :=
  ac_ownv (cs := refsC (swpR l j e hd).1) ent_161 (all_ref _) (by omega) (fun S w => rl_refs _) rfl fun w S0 vs hS hv => by
    unfold RVs at hv
    obtain ⟨u0, us, rfl, h0, hv⟩ := hv
    unfold RVs at hv
    obtain ⟨u1, us, rfl, h1, hv⟩ := hv
    unfold RVs at hv
    obtain ⟨u2, us, rfl, h2, hv⟩ := hv
    unfold RVs at hv
    obtain ⟨u3, us, rfl, h3, hv⟩ := hv
    unfold RVs at hv
    subst hv
    rw [arg_v h1, arg_v h3]
    have h2' : u2 = .agg (refV e.name e.head e.ver e.gone) := by
      have h2c := h2
      unfold refA RV at h2c
      obtain ⟨cs, rfl, hcs⟩ := h2c
      have : RA S0 w (refA e) cs := by unfold refA RA; exact hcs
      rw [ra_ref this]; rfl
    subst h2'
    obtain ⟨A, c, rfl, hr⟩ := arg_flat (cs := refsC l) hS (fun us h => rl_det (g := refC) (fun S w x cs h => ra_ref h) h) (by rw [refsC_length, List.length_map]) h0
    rw [List.length_map] at hr ⊢
    refine (swapAt_any A _ c l e j hd w hr hj h8 (fun _ => hlv)).mono ?_
    rintro en w' ⟨v, rfl, ho, hb⟩
    exact ⟨v, rfl, by rw [List.length_map, swpR_len]; exact ho, hb⟩
attribute [local irreducible] ACode AOps AOps2 RetG RetM Pre ACG
set_option maxHeartbeats 2000000 in
theorem ac_iCreate {l : List Rf} {x : ByteArray} {h : Int} (hm : l.length ≤ maxLen) (hk : nmOK maxLen l) (hx : x.size ≤ maxLen) : AC Try.prog 51 [.lst 4 (l.map refA), .v (.string x), .v (.int .i64 h)] ⟨.tup [.own 0, .v (.int .i64 (createR l x h).2)], [refO (createR l x h).1]⟩ := by
  have h1 := ac_refsCode hm hk hx
  unfold createR
  by_cases ha : askF l x = 0
  case neg =>
    rw [if_neg ha]
    generalize askF l x = c at *
    refine r_of Th_ok (by kernel_rfl) Try.func51 rfl Try.ntmps51 Try.results51 (by kernel_rfl) rfl ?_; conv => whnf
    repeat (first | ((first | refine qb rfl rfl ?_ | refine qi (by assumption) rfl rfl ?_ | refine ql rfl ?_ | refine qo rfl rfl ?_ | refine qs rfl rfl ?_ | refine qn rfl rfl ?_); conv => whnf) | (refine .inl (And.intro (by kernel_rfl) ?_); conv => whnf) | (refine qc (h1) rfl ?_; conv => whnf))
    exact r_tupOV rfl rfl rfl
  rw [if_pos ha]
  obtain ⟨hl8, _, hb⟩ := askF_len ha
  rw [ha] at h1
  cases hn : okN x with
  | false =>
    have h2 := ac_nameOK hx hn
    rw [if_neg (by simp)]
    refine r_of Th_ok (by kernel_rfl) Try.func51 rfl Try.ntmps51 Try.results51 (by kernel_rfl) rfl ?_; conv => whnf
    repeat (first | ((first | refine qb rfl rfl ?_ | refine qi (by assumption) rfl rfl ?_ | refine ql rfl ?_ | refine qo rfl rfl ?_ | refine qs rfl rfl ?_ | refine qn rfl rfl ?_); conv => whnf) | (refine .inl (And.intro (by kernel_rfl) ?_); conv => whnf) | (refine qc (h1) rfl ?_; conv => whnf) | (refine qc (h2) rfl ?_; conv => whnf))
    exact r_tupOV rfl rfl rfl
  | true =>
    have h2 := ac_nameOK hx hn
    rw [if_pos rfl]
    by_cases hh : 1 ≤ h ∧ h ≤ 60
    case neg =>
      rw [if_neg hh]
      have h3 := ac_headOK_f hh
      refine r_of Th_ok (by kernel_rfl) Try.func51 rfl Try.ntmps51 Try.results51 (by kernel_rfl) rfl ?_; conv => whnf
      repeat (first | ((first | refine qb rfl rfl ?_ | refine qi (by assumption) rfl rfl ?_ | refine ql rfl ?_ | refine qo rfl rfl ?_ | refine qs rfl rfl ?_ | refine qn rfl rfl ?_); conv => whnf) | (refine .inl (And.intro (by kernel_rfl) ?_); conv => whnf) | (refine qc (h1) rfl ?_; conv => whnf) | (refine qc (h2) rfl ?_; conv => whnf) | (refine qc (h3) rfl ?_; conv => whnf))
      exact r_tupOV rfl rfl rfl
    rw [if_pos hh]
    have h3 := ac_headOK_t hh.1 hh.2
    have h4 := ac_placeOfRef (l := l) (x := x) hm
    have hcl := ac_cloneRef (l := l) (by omega)
    have hge := @rAt_ge l x
    by_cases h0 : rAt l x 0 < 0
    · have e : rAt l x 0 = -1 := by omega
      rw [e] at h4
      rw [mkR_no h0]
      by_cases h8 : l.length = 8
      · rw [if_pos h8]
        refine r_of Th_ok (by kernel_rfl) Try.func51 rfl Try.ntmps51 Try.results51 (by kernel_rfl) rfl ?_; conv => whnf
        repeat (first | ((first | refine qb rfl rfl ?_ | refine qi (by assumption) rfl rfl ?_ | refine ql rfl ?_ | refine qo rfl rfl ?_ | refine qs rfl rfl ?_ | refine qn rfl rfl ?_); conv => whnf) | (refine .inl (And.intro (by kernel_rfl) ?_); conv => whnf) | (refine qc (h1) rfl ?_; conv => whnf) | (refine qc (h2) rfl ?_; conv => whnf) | (refine qc (h3) rfl ?_; conv => whnf) | (refine qc (h4) rfl ?_; conv => whnf) | (refine qc (hcl) rfl ?_; conv => whnf))
        exact r_tupOV rfl rfl rfl
      · rw [if_neg h8]
        refine r_of Th_ok (by kernel_rfl) Try.func51 rfl Try.ntmps51 Try.results51 (by kernel_rfl) rfl ?_; conv => whnf
        repeat (first | ((first | refine qb rfl rfl ?_ | refine qi (by assumption) rfl rfl ?_ | refine ql rfl ?_ | refine qo rfl rfl ?_ | refine qs rfl rfl ?_ | refine qn rfl rfl ?_); conv => whnf) | (refine .inl (And.intro (by kernel_rfl) ?_); conv => whnf) | (refine qc (h1) rfl ?_; conv => whnf) | (refine qc (h2) rfl ?_; conv => whnf) | (refine qc (h3) rfl ?_; conv => whnf) | (refine qc (h4) rfl ?_; conv => whnf) | (refine qc (hcl) rfl ?_; conv => whnf) | (refine r_step (p_app1r (f := refA) (xs := l) ⟨x, h, 1, false⟩ (l ++ [⟨x, h, 1, false⟩]) rfl (by omega) rfl rfl rfl rfl rfl rfl rfl) rfl rfl (fun e => by first | exact .inl rfl | contradiction | exact .inr (.inl (by kernel_rfl))) ?_; conv => whnf))
        exact r_tupOV rfl rfl rfl
    · obtain ⟨j, hj, e, _⟩ := rAt_lt (by omega : 0 ≤ rAt l x 0)
      rw [mkR_at hj e]
      rw [e] at h4
      obtain ⟨v0, v1⟩ := rf_ver hb hj
      cases hg : l[j].gone with
      | false =>
        rw [if_pos rfl]
        refine r_of Th_ok (by kernel_rfl) Try.func51 rfl Try.ntmps51 Try.results51 (by kernel_rfl) rfl ?_; conv => whnf
        repeat (first | ((first | refine qb rfl rfl ?_ | refine qi (by assumption) rfl rfl ?_ | refine ql rfl ?_ | refine qo rfl rfl ?_ | refine qs rfl rfl ?_ | refine qn rfl rfl ?_); conv => whnf) | (refine .inl (And.intro (by kernel_rfl) ?_); conv => whnf) | (refine qc (h1) rfl ?_; conv => whnf) | (refine qc (h2) rfl ?_; conv => whnf) | (refine qc (h3) rfl ?_; conv => whnf) | (refine qc (h4) rfl ?_; conv => whnf) | (refine qc (hcl) rfl ?_; conv => whnf) | (rw [hg]; conv => whnf))
        exact r_tupOV rfl rfl rfl
      | true =>
        rw [if_neg (by simp)]
        have hsw := ac_swapAt (e := l[j]) (hd := h) hj hl8 ⟨by omega, v1⟩
        rw [swp_self hj, show decide (h = 0) = false from decide_eq_false (by omega)] at hsw
        generalize (if l[j].ver = 1000000 then (l, 7) else (setR l j h false, 0) : List Rf × Int) = R at hsw ⊢
        refine r_of Th_ok (by kernel_rfl) Try.func51 rfl Try.ntmps51 Try.results51 (by kernel_rfl) rfl ?_; conv => whnf
        repeat (first | ((first | refine qb rfl rfl ?_ | refine qi (by assumption) rfl rfl ?_ | refine ql rfl ?_ | refine qo rfl rfl ?_ | refine qs rfl rfl ?_ | refine qn rfl rfl ?_); conv => whnf) | (refine .inl (And.intro (by kernel_rfl) ?_); conv => whnf) | (refine qc (h1) rfl ?_; conv => whnf) | (refine qc (h2) rfl ?_; conv => whnf) | (refine qc (h3) rfl ?_; conv => whnf) | (refine qc (h4) rfl ?_; conv => whnf) | (refine qc (hsw) rfl ?_; conv => whnf) | (rw [hg]; conv => whnf))
        exact r_tupOV rfl rfl rfl
theorem ac_iDelete {l : List Rf} {x : ByteArray} (hm : l.length ≤ maxLen) (hk : nmOK maxLen l) (hx : x.size ≤ maxLen) : AC Try.prog 56 [.lst 4 (l.map refA), .v (.string x)] ⟨.tup [.own 0, .v (.int .i64 (deleteR l x).2)], [refO (deleteR l x).1]⟩ := by
  have h1 := ac_refsCode hm hk hx
  unfold deleteR
  by_cases ha : askF l x = 0
  case neg =>
    rw [if_neg ha]
    generalize askF l x = c at *
    refine r_of Th_ok (by kernel_rfl) Try.func56 rfl Try.ntmps56 Try.results56 (by kernel_rfl) rfl ?_; conv => whnf
    repeat (first | ((first | refine qb rfl rfl ?_ | refine qi (by assumption) rfl rfl ?_ | refine ql rfl ?_ | refine qo rfl rfl ?_ | refine qs rfl rfl ?_ | refine qn rfl rfl ?_); conv => whnf) | (refine .inl (And.intro (by kernel_rfl) ?_); conv => whnf) | (refine qc (h1) rfl ?_; conv => whnf))
    exact r_tupOV rfl rfl rfl
  rw [if_pos ha]
  obtain ⟨hl8, _, hb⟩ := askF_len ha
  rw [ha] at h1
  have h2 := ac_liveRef (l := l) (x := x) hm
  have hcl := ac_cloneRef (l := l) (by omega)
  rcases live_cases l x with e | ⟨j, hj, e, e2, _⟩
  · rw [dlR_no e]
    rw [decide_eq_false (by rw [e]; omega)] at h2
    refine r_of Th_ok (by kernel_rfl) Try.func56 rfl Try.ntmps56 Try.results56 (by kernel_rfl) rfl ?_; conv => whnf
    repeat (first | ((first | refine qb rfl rfl ?_ | refine qi (by assumption) rfl rfl ?_ | refine ql rfl ?_ | refine qo rfl rfl ?_ | refine qs rfl rfl ?_ | refine qn rfl rfl ?_); conv => whnf) | (refine .inl (And.intro (by kernel_rfl) ?_); conv => whnf) | (refine qc (h1) rfl ?_; conv => whnf) | (refine qc (h2) rfl ?_; conv => whnf) | (refine qc (hcl) rfl ?_; conv => whnf))
    exact r_tupOV rfl rfl rfl
  · rw [dlR_at hj e]
    rw [decide_eq_true (by rw [e]; omega), e2] at h2
    obtain ⟨v0, v1⟩ := rf_ver hb hj
    have hsw := ac_swapAt (e := l[j]) (hd := 0) hj hl8 ⟨by omega, v1⟩
    rw [swp_self hj, show decide ((0 : Int) = 0) = true from rfl] at hsw
    generalize (if l[j].ver = 1000000 then (l, 7) else (setR l j 0 true, 0) : List Rf × Int) = R at hsw ⊢
    refine r_of Th_ok (by kernel_rfl) Try.func56 rfl Try.ntmps56 Try.results56 (by kernel_rfl) rfl ?_; conv => whnf
    repeat (first | ((first | refine qb rfl rfl ?_ | refine qi (by assumption) rfl rfl ?_ | refine ql rfl ?_ | refine qo rfl rfl ?_ | refine qs rfl rfl ?_ | refine qn rfl rfl ?_); conv => whnf) | (refine .inl (And.intro (by kernel_rfl) ?_); conv => whnf) | (refine qc (h1) rfl ?_; conv => whnf) | (refine qc (h2) rfl ?_; conv => whnf) | (refine qc (hsw) rfl ?_; conv => whnf))
    exact r_tupOV rfl rfl rfl
theorem ac_iSwap {l : List Rf} {x : ByteArray} {v h : Int} (hm : l.length ≤ maxLen) (hk : nmOK maxLen l) (hx : x.size ≤ maxLen) : AC Try.prog 58 [.lst 4 (l.map refA), .v (.string x), .v (.int .i64 v), .v (.int .i64 h)] ⟨.tup [.own 0, .v (.int .i64 (swapR l x v h).2)], [refO (swapR l x v h).1]⟩ := by
  have h1 := ac_refsCode hm hk hx
  unfold swapR
  by_cases ha : askF l x = 0
  case neg =>
    rw [if_neg ha]
    generalize askF l x = c at *
    refine r_of Th_ok (by kernel_rfl) Try.func58 rfl Try.ntmps58 Try.results58 (by kernel_rfl) rfl ?_; conv => whnf
    repeat (first | ((first | refine qb rfl rfl ?_ | refine qi (by assumption) rfl rfl ?_ | refine ql rfl ?_ | refine qo rfl rfl ?_ | refine qs rfl rfl ?_ | refine qn rfl rfl ?_); conv => whnf) | (refine .inl (And.intro (by kernel_rfl) ?_); conv => whnf) | (refine qc (h1) rfl ?_; conv => whnf))
    exact r_tupOV rfl rfl rfl
  rw [if_pos ha]
  obtain ⟨hl8, _, hb⟩ := askF_len ha
  rw [ha] at h1
  by_cases hh : 1 ≤ h ∧ h ≤ 60
  case neg =>
    rw [if_neg hh]
    have h3 := ac_headOK_f hh
    refine r_of Th_ok (by kernel_rfl) Try.func58 rfl Try.ntmps58 Try.results58 (by kernel_rfl) rfl ?_; conv => whnf
    repeat (first | ((first | refine qb rfl rfl ?_ | refine qi (by assumption) rfl rfl ?_ | refine ql rfl ?_ | refine qo rfl rfl ?_ | refine qs rfl rfl ?_ | refine qn rfl rfl ?_); conv => whnf) | (refine .inl (And.intro (by kernel_rfl) ?_); conv => whnf) | (refine qc (h1) rfl ?_; conv => whnf) | (refine qc (h3) rfl ?_; conv => whnf))
    exact r_tupOV rfl rfl rfl
  rw [if_pos hh]
  have h3 := ac_headOK_t hh.1 hh.2
  have h2 := ac_liveRef (l := l) (x := x) hm
  have hcl := ac_cloneRef (l := l) (by omega)
  rcases live_cases l x with e | ⟨j, hj, e, e2, hg⟩
  · rw [swR_no e]
    rw [decide_eq_false (by rw [e]; omega)] at h2
    refine r_of Th_ok (by kernel_rfl) Try.func58 rfl Try.ntmps58 Try.results58 (by kernel_rfl) rfl ?_; conv => whnf
    repeat (first | ((first | refine qb rfl rfl ?_ | refine qi (by assumption) rfl rfl ?_ | refine ql rfl ?_ | refine qo rfl rfl ?_ | refine qs rfl rfl ?_ | refine qn rfl rfl ?_); conv => whnf) | (refine .inl (And.intro (by kernel_rfl) ?_); conv => whnf) | (refine qc (h1) rfl ?_; conv => whnf) | (refine qc (h2) rfl ?_; conv => whnf) | (refine qc (h3) rfl ?_; conv => whnf) | (refine qc (hcl) rfl ?_; conv => whnf))
    exact r_tupOV rfl rfl rfl
  · rw [swR_at hj e]
    rw [decide_eq_true (by rw [e]; omega), e2] at h2
    obtain ⟨v0, v1⟩ := rf_ver hb hj
    have hsw := ac_swapAt (e := ⟨l[j].name, l[j].head, v, l[j].gone⟩) (hd := h) hj hl8 ⟨by omega, v1⟩
    rw [swp_ver hj v h hg hh.1] at hsw
    generalize (if l[j].ver ≠ v then (l, 13) else if v = 1000000 then (l, 7) else (setR l j h false, 0) : List Rf × Int) = R at hsw ⊢
    refine r_of Th_ok (by kernel_rfl) Try.func58 rfl Try.ntmps58 Try.results58 (by kernel_rfl) rfl ?_; conv => whnf
    repeat (first | ((first | refine qb rfl rfl ?_ | refine qi (by assumption) rfl rfl ?_ | refine ql rfl ?_ | refine qo rfl rfl ?_ | refine qs rfl rfl ?_ | refine qn rfl rfl ?_); conv => whnf) | (refine .inl (And.intro (by kernel_rfl) ?_); conv => whnf) | (refine qc (h1) rfl ?_; conv => whnf) | (refine qc (h2) rfl ?_; conv => whnf) | (refine qc (h3) rfl ?_; conv => whnf) | (refine qc (hsw) rfl ?_; conv => whnf) | (refine r_step (p_ostore rfl rfl rfl rfl rfl (by conv => lhs; whnf) rfl) rfl rfl (fun e => by first | exact .inl rfl | contradiction | exact .inr (.inl (by kernel_rfl))) ?_; conv => whnf))
    exact r_tupOV rfl rfl rfl
end Go.Proofs.Ytjhimcddgkoghaa.AM
namespace Go.Proofs.Ytjhimcddgkoghaa.AM
open Go Go.RowKit
set_option linter.unusedVariables false
set_option linter.unusedSimpArgs false
set_option maxRecDepth 100000
/-- the i-th choice out of n -/
def atS (m : List UInt8) (i n : Nat) : Nat := if n ≤ 1 then 0 else if m.length = 0 then i * 7 % n else ((m.getD (i % m.length) 0).toNat * 31 + (m.getD ((i + 1) % m.length) 0).toNat + i / m.length) % n
theorem atS_lt {m : List UInt8} {i n : Nat} (hn : 0 < n) : atS m i n < n := by
  unfold atS
  split
  · exact hn
  · split <;> exact Nat.mod_lt _ hn
theorem b_quo3 {P : Program} {t : TypeId} {x y : Operand} {a b c : Int} (h0 : 0 ≤ a) (h1 : a ≤ 9223372036854775807) (hb : 0 < b) (hc : a / b = c) : BinOK P .quo t x y (.int .i64 a) (.int .i64 b) (.int .i64 c) := fun w => by
  have hb0 : b ≠ 0 := by omega
  have hle : a / b ≤ a := Int.ediv_le_self b h0
  have hnn : 0 ≤ a / b := Int.ediv_nonneg h0 (by omega)
  have hw : IntKind.i64.wrap (a.tdiv b) = c := by rw [Int.tdiv_eq_ediv_of_nonneg h0, IntKind.wrap_i64, hc]; omega
  have hr : (Op.intDiv .quo .i64 a b).run P w = .ok (.int .i64 c) w := by simp [Op.intDiv, hb0, hw]
  simp [eqGuard, binOp, hr]
theorem b_rfsame {a : Rf} {x y : Operand} : BinOK Try.prog .neq 83 x y (.agg #[.string a.name, .int .i64 a.head, .int .i64 a.ver, .bool a.gone]) (.agg #[.string a.name, .int .i64 a.head, .int .i64 a.ver, .bool a.gone]) (.bool false) := fun w => by
  have g1 := ref_guard .neq x y (refV a.name a.head a.ver a.gone) (refV a.name a.head a.ver a.gone) w
  have g2 := ref_ne a.name a.name a.head a.head a.ver a.ver a.gone a.gone w
  rw [decide_eq_true ⟨rfl, rfl, rfl, rfl⟩] at g2
  unfold refV at g1 g2
  rw [Sem.run_bind, g1, Result.andThen_ok, g2]; rfl
attribute [local irreducible] ACode AOps AOps2 RetG RetM Pre ACG
set_option maxHeartbeats 8000000 in
theorem ac_at {m : List UInt8} {i n : Nat} (hm : m.length ≤ maxLen) (hi : i ≤ 1000) (hn : n ≤ 1000) : AC Try.prog 80 [.lst 1 (m.map bytA), .v (.int .i64 (i : Int)), .v (.int .i64 (n : Int))] ⟨.v (.int .i64 (atS m i n : Int)), []⟩ := by
  unfold maxLen at hm
  unfold atS
  by_cases h1 : n ≤ 1
  · rw [if_pos h1]
    refine r_of Th_ok (by kernel_rfl) Try.func80 rfl Try.ntmps80 Try.results80 (by kernel_rfl) rfl ?_; conv => whnf
    repeat (((first | refine qb rfl rfl ?_ | refine qi (by assumption) rfl rfl ?_ | refine ql rfl ?_ | refine qo rfl rfl ?_ | refine qs rfl rfl ?_ | refine qn rfl rfl ?_); conv => whnf))
    exact r_ret1 rfl trivial
  rw [if_neg h1]
  by_cases h2 : m.length = 0
  · rw [if_pos h2]
    have hr : (i : Int) * 7 % (n : Int) = ((i * 7 % n : Nat) : Int) := by rw [Int.natCast_emod, Int.natCast_mul]; rfl
    refine r_of Th_ok (by kernel_rfl) Try.func80 rfl Try.ntmps80 Try.results80 (by kernel_rfl) rfl ?_; conv => whnf
    repeat (first | (refine r_put (p_bin (b_mul2 (c := (i : Int) * 7) rfl (by omega) (by omega)) rfl rfl rfl) rfl rfl ?_; conv => whnf) | (refine r_put (p_bin (b_rem2 (by omega) (by omega) hr) rfl rfl rfl) rfl rfl ?_; conv => whnf) | ((first | refine qb rfl rfl ?_ | refine qi (by assumption) rfl rfl ?_ | refine ql rfl ?_ | refine qo rfl rfl ?_ | refine qs rfl rfl ?_ | refine qn rfl rfl ?_); conv => whnf))
    exact r_ret1 rfl trivial
  rw [if_neg h2]
  have hl : 0 < m.length := by omega
  have j1 : i % m.length < m.length := Nat.mod_lt _ hl
  have j2 : (i + 1) % m.length < m.length := Nat.mod_lt _ hl
  have g1 : m.getD (i % m.length) 0 = m[i % m.length] := by simp [j1]
  have g2 : m.getD ((i + 1) % m.length) 0 = m[(i + 1) % m.length] := by simp [j2]
  rw [g1, g2]
  have b1 : (m[i % m.length]).toNat < 256 := (m[i % m.length]).toNat_lt
  have b2 : (m[(i + 1) % m.length]).toNat < 256 := (m[(i + 1) % m.length]).toNat_lt
  have r1 : (i : Int) % (m.length : Int) = ((i % m.length : Nat) : Int) := (Int.natCast_emod _ _).symm
  have r2 : ((i + 1 : Nat) : Int) % (m.length : Int) = (((i + 1) % m.length : Nat) : Int) := (Int.natCast_emod _ _).symm
  have d1 : (i : Int) / (m.length : Int) = ((i / m.length : Nat) : Int) := (Int.natCast_ediv _ _).symm
  have d2 : i / m.length ≤ i := Nat.div_le_self _ _
  have hr : (((m[i % m.length]).toNat : Int) * 31 + ((m[(i + 1) % m.length]).toNat : Int) + ((i / m.length : Nat) : Int)) % (n : Int) = ((((m[i % m.length]).toNat * 31 + (m[(i + 1) % m.length]).toNat + i / m.length) % n : Nat) : Int) := by
    rw [Int.natCast_emod]; congr 1
  generalize i / m.length = q at *
  generalize hp1 : i % m.length = p1 at *
  generalize hp2 : (i + 1) % m.length = p2 at *
  refine r_of Th_ok (by kernel_rfl) Try.func80 rfl Try.ntmps80 Try.results80 (by kernel_rfl) rfl ?_; conv => whnf
  repeat (first | (refine r_put (p_bin (b_add (c := ((i + 1 : Nat) : Int)) (by omega) (by omega) (by omega)) rfl rfl rfl) rfl rfl ?_; conv => whnf) | (refine r_put (p_bin (b_rem2 (by omega) (by omega) r1) rfl rfl rfl) rfl rfl ?_; conv => whnf) | (refine r_put (p_bin (b_rem2 (by omega) (by omega) r2) rfl rfl rfl) rfl rfl ?_; conv => whnf) | (refine r_put (p_bin (b_quo3 (by omega) (by omega) (by omega) d1) rfl rfl rfl) rfl rfl ?_; conv => whnf) | (refine r_put (p_conv8 rfl b1) rfl rfl ?_; conv => whnf) | (refine r_put (p_conv8 rfl b2) rfl rfl ?_; conv => whnf) | (refine r_put (p_bin (b_mul2 rfl (by omega) (by omega)) rfl rfl rfl) rfl rfl ?_; conv => whnf) | (refine r_put (p_bin (b_add rfl (by omega) (by omega)) rfl rfl rfl) rfl rfl ?_; conv => whnf) | (refine r_put (p_bin (b_rem2 (by omega) (by omega) hr) rfl rfl rfl) rfl rfl ?_; conv => whnf) | ((first | refine qb rfl rfl ?_ | refine qi (by assumption) rfl rfl ?_ | refine ql rfl ?_ | refine qo rfl rfl ?_ | refine qs rfl rfl ?_ | refine qn rfl rfl ?_); conv => whnf) | (refine .inl (And.intro (by kernel_rfl) ?_); conv => whnf))
  exact r_ret1 rfl trivial
def names4 : List ByteArray := [⟨#[109, 97, 105, 110]⟩, ⟨#[100, 101, 118]⟩, ⟨#[102, 105, 120]⟩, ⟨#[111, 108, 100]⟩]
def Nam (x : ByteArray) : Prop := okN x = true ∧ x.size ≤ 12
theorem names6_ok {x : ByteArray} (h : x ∈ names6) : Nam x := by
  have h1 : (names6.all fun k => okN k && decide (k.size ≤ 12)) = true := by decide +kernel
  have := List.all_eq_true.1 h1 x h
  simpa [Nam] using this
theorem names4_ok {x : ByteArray} (h : x ∈ names4) : Nam x := by
  have h1 : (names4.all fun k => okN k && decide (k.size ≤ 12)) = true := by decide +kernel
  have := List.all_eq_true.1 h1 x h
  simpa [Nam] using this
theorem pickS_ok {c : List UInt8} {s : Src} {K : Nat} {l : List ByteArray} (h : s.ok K) (h0 : 0 < l.length) : (pickS c s l).2.ok (K + 1) ∧ (pickS c s l).1 ∈ l := by
  obtain ⟨h1, h2⟩ := nextS_ok (c := c) (n := l.length) h h0
  refine ⟨h1, ?_⟩
  have e : (pickS c s l).1 = l[(nextS c s l.length).1] := by simp [pickS, h2]
  rw [e]; exact List.getElem_mem h2
theorem ac_branch {c : List UInt8} {s : Src} {K : Nat} (hc : c.length ≤ maxLen) (hs : s.ok K) (hK : K ≤ 1000000000) : ACG Try.prog 199 [.optr 0 0 [] 0] [srcO c s] [srcO c (pickS c s names4).2] ⟨.v (.string (pickS c s names4).1), []⟩ := by
  have hb : ACG Try.prog 252 [.optr 0 0 [] 0, .own 1000000] [srcO c s, strO names4] [srcO c (pickS c s names4).2, strO names4] ⟨.v (.string (pickS c s names4).1), []⟩ := ac_pick hc hs hK (by decide) (by decide)
  refine acg_of (rs := [.tmp 2]) Th_ok (by kernel_rfl) Try.func199 rfl Try.ntmps199 (by rw [Try.results199]) (by kernel_rfl) (by simp) rfl rfl (runC_sound _ _ _ ?_); conv => whnf
  (refine r_step (p_callg [0,5] (hb) rfl rfl (by first | exact ⟨rfl, trivial⟩ | exact ⟨rfl, rfl, trivial⟩ | exact ⟨rfl, rfl, rfl, trivial⟩) rfl rfl (by first | exact trivial | exact ⟨⟨rfl, rfl, rfl⟩, trivial⟩ | exact ⟨⟨rfl, rfl, rfl⟩, ⟨rfl, rfl, rfl⟩, trivial⟩ | exact ⟨⟨rfl, rfl, rfl⟩, ⟨rfl, rfl, rfl⟩, ⟨rfl, rfl, rfl⟩, trivial⟩) rfl rfl rfl (.inl rfl) rfl) rfl rfl (fun e => by first | exact .inl rfl | contradiction | exact .inr (.inl (by kernel_rfl))) ?_; conv => whnf)
  repeat (((first | refine qb rfl rfl ?_ | refine qi (by assumption) rfl rfl ?_ | refine ql rfl ?_ | refine qo rfl rfl ?_ | refine qs rfl rfl ?_ | refine qn rfl rfl ?_); conv => whnf))
  exact r_ret1s rfl rfl
noncomputable def brD (c : List UInt8) : ByteArray := (pickS c (src0 c) names4).1
theorem brD_ok (c : List UInt8) : Nam (brD c) := names4_ok (pickS_ok (src0_ok c) (by decide)).2
theorem ac_BranchDrawn {c : List UInt8} (hc : c.length ≤ maxLen) : AC Try.prog 96 [.lst 1 (c.map bytA)] ⟨.v (.string (brD c)), []⟩ := by
  have h1 := ac_source hc
  have h2 := ac_branch hc (src0_ok c) (by omega)
  unfold brD
  refine r_of Th_ok (by kernel_rfl) Try.func96 rfl Try.ntmps96 Try.results96 (by kernel_rfl) rfl ?_; conv => whnf
  repeat (first | ((first | refine qb rfl rfl ?_ | refine qi (by assumption) rfl rfl ?_ | refine ql rfl ?_ | refine qo rfl rfl ?_ | refine qs rfl rfl ?_ | refine qn rfl rfl ?_); conv => whnf) | (refine qf (h1) rfl ?_; conv => whnf))
  (refine r_step (p_callg [5] (h2) rfl rfl (by first | exact ⟨rfl, trivial⟩ | exact ⟨rfl, rfl, trivial⟩ | exact ⟨rfl, rfl, rfl, trivial⟩) rfl rfl (by first | exact trivial | exact ⟨⟨rfl, rfl, rfl⟩, trivial⟩ | exact ⟨⟨rfl, rfl, rfl⟩, ⟨rfl, rfl, rfl⟩, trivial⟩ | exact ⟨⟨rfl, rfl, rfl⟩, ⟨rfl, rfl, rfl⟩, ⟨rfl, rfl, rfl⟩, trivial⟩) rfl rfl rfl (.inl rfl) rfl) rfl rfl (fun e => by first | exact .inl rfl | contradiction | exact .inr (.inl (by kernel_rfl))) ?_; conv => whnf)
  repeat (((first | refine qb rfl rfl ?_ | refine qi (by assumption) rfl rfl ?_ | refine ql rfl ?_ | refine qo rfl rfl ?_ | refine qs rfl rfl ?_ | refine qn rfl rfl ?_); conv => whnf))
  exact r_ret1 rfl trivial
/-- one reference is drawn -/
def rfS1 (c : List UInt8) (s : Src) : ByteArray × Src := pickS c s names6
def rfS2 (c : List UInt8) (s : Src) : Nat × Src := nextS c (rfS1 c s).2 9
def rfS3 (c : List UInt8) (s : Src) : Nat × Src := nextS c (rfS2 c s).2 4
def rfS4 (c : List UInt8) (s : Src) : Nat × Src := nextS c (rfS3 c s).2 5
def rfS (c : List UInt8) (s : Src) : Rf := if (rfS4 c s).1 = 5 - 1 then ⟨(rfS1 c s).1, 0, 1 + ((rfS3 c s).1 : Int), true⟩ else ⟨(rfS1 c s).1, 1 + ((rfS2 c s).1 : Int), 1 + ((rfS3 c s).1 : Int), false⟩
theorem rfS_ok {c : List UInt8} {s : Src} {K : Nat} (h : s.ok K) : ((rfS1 c s).2.ok (K + 1) ∧ (rfS2 c s).2.ok (K + 2) ∧ (rfS3 c s).2.ok (K + 3) ∧ (rfS4 c s).2.ok (K + 4)) ∧ refB (rfS c s) = true ∧ (rfS c s).ver ≤ 4 ∧ (rfS c s).name.size ≤ 12 ∧ (rfS c s).name = (rfS1 c s).1 := by
  obtain ⟨h1, n1⟩ := pickS_ok (c := c) (l := names6) h (by decide)
  obtain ⟨h2, n2⟩ := nextS_ok (c := c) (n := 9) h1 (by omega)
  obtain ⟨h3, n3⟩ := nextS_ok (c := c) (n := 4) h2 (by omega)
  obtain ⟨h4, n4⟩ := nextS_ok (c := c) (n := 5) h3 (by omega)
  obtain ⟨k1, k2⟩ := names6_ok n1
  have n2' : (rfS2 c s).1 < 9 := n2
  have n3' : (rfS3 c s).1 < 4 := n3
  refine ⟨⟨h1, h2, h3, h4⟩, ?_, ?_, ?_, ?_⟩
  · rw [refB_iff]
    unfold rfS
    split
    · exact ⟨k1, ⟨by simp only; omega, by simp only; omega⟩, by simp⟩
    · exact ⟨k1, ⟨by simp only; omega, by simp only; omega⟩, by simp; omega⟩
  · unfold rfS; split <;> (simp only; omega)
  · unfold rfS; split <;> exact k2
  · unfold rfS; split <;> rfl
def addR (l : List Rf) (r : Rf) : List Rf := if rAt l r.name 0 < 0 then l ++ [r] else l
def refsL (c : List UInt8) : Nat → Src → List Rf → List Rf × Src
  | 0, s, l => (l, s)
  | n + 1, s, l => refsL c n (rfS4 c s).2 (addR l (rfS c s))
theorem addR_ok {l : List Rf} {r : Rf} (h : GoodR l) (hl : l.length < 8) (hr : refB r = true) (hv : r.ver ≤ 4) (hs : r.name.size ≤ 12) : GoodR (addR l r) ∧ (addR l r).length ≤ l.length + 1 := by
  unfold addR
  split
  · rename_i hn; exact ⟨h.snoc hl hr hv hs hn, by simp⟩
  · exact ⟨h, by omega⟩
theorem refsL_ok {c : List UInt8} : ∀ (n : Nat) (s : Src) (l : List Rf) (K : Nat), s.ok K → GoodR l → l.length + n ≤ 8 → (refsL c n s l).2.ok (K + 4 * n) ∧ GoodR (refsL c n s l).1 ∧ (refsL c n s l).1.length ≤ 8
  | 0, s, l, K, h, hg, hl => ⟨h, hg, hl⟩
  | n + 1, s, l, K, h, hg, hl => by
    obtain ⟨⟨_, _, _, h4⟩, a, b, d, _⟩ := rfS_ok (c := c) h
    obtain ⟨g1, g2⟩ := addR_ok hg (by omega) a b d
    obtain ⟨k1, k2, k3⟩ := refsL_ok n (rfS4 c s).2 (addR l (rfS c s)) (K + 4) h4 g1 (by omega)
    exact ⟨k1.le (by omega), k2, k3⟩
def refsS (c : List UInt8) (s : Src) : List Rf × Src := refsL c (nextS c s 5).1 (nextS c s 5).2 []
theorem refsS_ok {c : List UInt8} {s : Src} {K : Nat} (h : s.ok K) : (refsS c s).2.ok (K + 17) ∧ GoodR (refsS c s).1 ∧ (refsS c s).1.length ≤ 8 := by
  obtain ⟨h1, h2⟩ := nextS_ok (c := c) (n := 5) h (by omega)
  obtain ⟨a1, a2, a3⟩ := refsL_ok (c := c) (nextS c s 5).1 _ [] _ h1 GoodR.nil (by simp; omega)
  exact ⟨a1.le (by omega), a2, a3⟩
set_option maxHeartbeats 4000000 in
theorem ac_refs {c : List UInt8} {s : Src} {K : Nat} (hc : c.length ≤ maxLen) (hs : s.ok K) (hK : K ≤ 900000000) : ACG Try.prog 198 [.optr 0 0 [] 0] [srcO c s] [srcO c (refsS c s).2] ⟨.own 0, [refO (refsS c s).1]⟩ := by
  have hb := ac_next (n := 5) hc hs (by omega) (by omega)
  obtain ⟨n1, n2⟩ := nextS_ok (c := c) (n := 5) hs (by omega)
  refine acg_of (rs := [.tmp 2]) Th_ok (by kernel_rfl) Try.func198 rfl Try.ntmps198 (by rw [Try.results198]) (by kernel_rfl) (by simp) rfl rfl (runC_sound _ _ _ ?_); conv => whnf
  repeat (first | ((first | refine qb rfl rfl ?_ | refine qi (by assumption) rfl rfl ?_ | refine ql rfl ?_ | refine qo rfl rfl ?_ | refine qs rfl rfl ?_ | refine qn rfl rfl ?_); conv => whnf) | (refine r_step (p_callg [0] (hb) rfl rfl (by first | exact ⟨rfl, trivial⟩ | exact ⟨rfl, rfl, trivial⟩ | exact ⟨rfl, rfl, rfl, trivial⟩) rfl rfl (by first | exact trivial | exact ⟨⟨rfl, rfl, rfl⟩, trivial⟩ | exact ⟨⟨rfl, rfl, rfl⟩, ⟨rfl, rfl, rfl⟩, trivial⟩ | exact ⟨⟨rfl, rfl, rfl⟩, ⟨rfl, rfl, rfl⟩, ⟨rfl, rfl, rfl⟩, trivial⟩) rfl rfl rfl (.inl rfl) rfl) rfl rfl (fun e => by first | exact .inl rfl | contradiction | exact .inr (.inl (by kernel_rfl))) ?_; conv => whnf))
  unfold refsS
  generalize (nextS c s 5).2 = s1 at n1 ⊢
  generalize hn0 : (nextS c s 5).1 = n0 at n2 ⊢
  refine r_loop (ι := { p : Nat × Src × List Rf // p.2.1.ok (K + 1 + 4 * (4 - p.1)) ∧ p.1 ≤ 4 ∧ GoodR p.2.2 ∧ p.2.2.length + p.1 ≤ 4 ∧ refsL c p.1 p.2.1 p.2.2 = refsL c n0 s1 [] }) (fun p => ⟨[(0, .optr 0 0 [] 0), (3, .own 7), (4, .v (.int .i64 (p.1.1 : Int)))], [(0, srcO c p.1.2.1), (7, refO p.1.2.2)]⟩) (fun p => p.1.1) ⟨(n0, s1, []), n1.le (by omega), by omega, GoodR.nil, by simp; omega, rfl⟩ (by refine ⟨?_, ?_⟩ <;> (repeat (first | trivial | exact ⟨rfl, trivial⟩ | refine ⟨rfl, ?_⟩ | refine ⟨.inl ⟨rfl, rfl⟩, ?_⟩ | refine ⟨.inr ⟨_, _, rfl, rfl, rfl, rfl, rfl⟩, ?_⟩))) ?_
  rintro ⟨⟨n, s2, m⟩, h1, h2, h3, h4, h5⟩
  dsimp only at h1 h2 h3 h4 h5 ⊢
  conv => whnf
  cases n with
  | zero =>
    rw [← h5]
    repeat (((first | refine qb rfl rfl ?_ | refine qi (by assumption) rfl rfl ?_ | refine ql rfl ?_ | refine qo rfl rfl ?_ | refine qs rfl rfl ?_ | refine qn rfl rfl ?_); conv => whnf))
    exact r_own1s rfl rfl rfl
  | succ n =>
    obtain ⟨⟨k1, k2, k3, k4⟩, a, b, d, e⟩ := rfS_ok (c := c) h1
    have c1 : ACG Try.prog 252 [.optr 0 0 [] 0, .own 1000000] [srcO c s2, strO names6] [srcO c (rfS1 c s2).2, strO names6] ⟨.v (.string (rfS1 c s2).1), []⟩ := ac_pick hc h1 (by omega) (by decide) (by decide)
    have c2 := ac_next (n := 9) hc k1 (by omega) (by omega)
    have c3 := ac_next (n := 4) hc k2 (by omega) (by omega)
    have c4 := ac_chance (n := 5) hc k3 (by omega) (by omega) (by omega)
    have n2' : (nextS c (rfS1 c s2).2 9).1 < 9 := (nextS_ok (c := c) (n := 9) k1 (by omega)).2
    have n3' : (nextS c (rfS2 c s2).2 4).1 < 4 := (nextS_ok (c := c) (n := 4) k2 (by omega)).2
    have h5' : refsL c n (rfS4 c s2).2 (addR m (rfS c s2)) = refsL c n0 s1 [] := h5
    obtain ⟨g1, g2⟩ := addR_ok h3 (by omega) a b d
    have hat := ac_l04At (l := m) (x := (rfS1 c s2).1) (by unfold maxLen; omega)
    repeat (first | ((first | refine qb rfl rfl ?_ | refine qi (by assumption) rfl rfl ?_ | refine ql rfl ?_ | refine qo rfl rfl ?_ | refine qs rfl rfl ?_ | refine qn rfl rfl ?_); conv => whnf) | (refine r_step (p_callg [0,15] (c1) rfl rfl (by first | exact ⟨rfl, trivial⟩ | exact ⟨rfl, rfl, trivial⟩ | exact ⟨rfl, rfl, rfl, trivial⟩) rfl rfl (by first | exact trivial | exact ⟨⟨rfl, rfl, rfl⟩, trivial⟩ | exact ⟨⟨rfl, rfl, rfl⟩, ⟨rfl, rfl, rfl⟩, trivial⟩ | exact ⟨⟨rfl, rfl, rfl⟩, ⟨rfl, rfl, rfl⟩, ⟨rfl, rfl, rfl⟩, trivial⟩) rfl rfl rfl (.inl rfl) rfl) rfl rfl (fun e => by first | exact .inl rfl | contradiction | exact .inr (.inl (by kernel_rfl))) ?_; conv => whnf) | (refine r_step (p_callg [0] (c2) rfl rfl (by first | exact ⟨rfl, trivial⟩ | exact ⟨rfl, rfl, trivial⟩ | exact ⟨rfl, rfl, rfl, trivial⟩) rfl rfl (by first | exact trivial | exact ⟨⟨rfl, rfl, rfl⟩, trivial⟩ | exact ⟨⟨rfl, rfl, rfl⟩, ⟨rfl, rfl, rfl⟩, trivial⟩ | exact ⟨⟨rfl, rfl, rfl⟩, ⟨rfl, rfl, rfl⟩, ⟨rfl, rfl, rfl⟩, trivial⟩) rfl rfl rfl (.inl rfl) rfl) rfl rfl (fun e => by first | exact .inl rfl | contradiction | exact .inr (.inl (by kernel_rfl))) ?_; conv => whnf) | (refine r_step (p_callg [0] (c3) rfl rfl (by first | exact ⟨rfl, trivial⟩ | exact ⟨rfl, rfl, trivial⟩ | exact ⟨rfl, rfl, rfl, trivial⟩) rfl rfl (by first | exact trivial | exact ⟨⟨rfl, rfl, rfl⟩, trivial⟩ | exact ⟨⟨rfl, rfl, rfl⟩, ⟨rfl, rfl, rfl⟩, trivial⟩ | exact ⟨⟨rfl, rfl, rfl⟩, ⟨rfl, rfl, rfl⟩, ⟨rfl, rfl, rfl⟩, trivial⟩) rfl rfl rfl (.inl rfl) rfl) rfl rfl (fun e => by first | exact .inl rfl | contradiction | exact .inr (.inl (by kernel_rfl))) ?_; conv => whnf) | (refine r_step (p_callg [0] (c4) rfl rfl (by first | exact ⟨rfl, trivial⟩ | exact ⟨rfl, rfl, trivial⟩ | exact ⟨rfl, rfl, rfl, trivial⟩) rfl rfl (by first | exact trivial | exact ⟨⟨rfl, rfl, rfl⟩, trivial⟩ | exact ⟨⟨rfl, rfl, rfl⟩, ⟨rfl, rfl, rfl⟩, trivial⟩ | exact ⟨⟨rfl, rfl, rfl⟩, ⟨rfl, rfl, rfl⟩, ⟨rfl, rfl, rfl⟩, trivial⟩) rfl rfl rfl (.inl rfl) rfl) rfl rfl (fun e => by first | exact .inl rfl | contradiction | exact .inr (.inl (by kernel_rfl))) ?_; conv => whnf) | (refine r_step (p_ostore rfl rfl rfl rfl rfl (by conv => lhs; whnf) rfl) rfl rfl (fun e => by first | exact .inl rfl | contradiction | exact .inr (.inl (by kernel_rfl))) ?_; conv => whnf))
    by_cases h6 : (nextS c (rfS3 c s2).2 5).1 = 5 - 1
    · rw [decide_eq_true h6]
      have hf : rfS c s2 = ⟨(rfS1 c s2).1, 0, 1 + ((nextS c (rfS2 c s2).2 4).1 : Int), true⟩ := by unfold rfS; rw [if_pos (show (rfS4 c s2).1 = 5 - 1 from h6)]; rfl
      rw [hf] at h5' g1 g2
      conv => whnf
      by_cases hat0 : rAt m (rfS1 c s2).1 0 < 0
      · have had : addR m ⟨(rfS1 c s2).1, 0, 1 + ((nextS c (rfS2 c s2).2 4).1 : Int), true⟩ = m ++ [⟨(rfS1 c s2).1, 0, 1 + ((nextS c (rfS2 c s2).2 4).1 : Int), true⟩] := by unfold addR; rw [if_pos hat0]
        rw [had] at h5' g1 g2
        repeat (first | (refine r_put (p_bin (b_sub (c := (n : Int)) (by omega) (by omega) (by omega)) rfl rfl rfl) rfl rfl ?_; conv => whnf) | ((first | refine qb rfl rfl ?_ | refine qi (by assumption) rfl rfl ?_ | refine ql rfl ?_ | refine qo rfl rfl ?_ | refine qs rfl rfl ?_ | refine qn rfl rfl ?_); conv => whnf) | (refine r_step (p_ostore rfl rfl rfl rfl rfl (by conv => lhs; whnf) rfl) rfl rfl (fun e => by first | exact .inl rfl | contradiction | exact .inr (.inl (by kernel_rfl))) ?_; conv => whnf) | (refine qc (hat) rfl ?_; conv => whnf) | (refine r_step (p_app1r (f := refA) (xs := m) ⟨(rfS1 c s2).1, 0, 1 + ((nextS c (rfS2 c s2).2 4).1 : Int), true⟩ (m ++ [⟨(rfS1 c s2).1, 0, 1 + ((nextS c (rfS2 c s2).2 4).1 : Int), true⟩]) rfl (by omega) rfl rfl rfl rfl rfl rfl rfl) rfl rfl (fun e => by first | exact .inl rfl | contradiction | exact .inr (.inl (by kernel_rfl))) ?_; conv => whnf))
        exact ⟨⟨(n, (rfS4 c s2).2, m ++ [⟨(rfS1 c s2).1, 0, 1 + ((nextS c (rfS2 c s2).2 4).1 : Int), true⟩]), k4.le (by omega), by omega, g1, by simp; omega, h5'⟩, by refine ⟨?_, ?_⟩ <;> (repeat (first | trivial | exact ⟨rfl, trivial⟩ | refine ⟨rfl, ?_⟩ | refine ⟨.inl ⟨rfl, rfl⟩, ?_⟩ | refine ⟨.inr ⟨_, _, rfl, rfl, rfl, rfl, rfl⟩, ?_⟩)), by simp⟩
      · have had : addR m ⟨(rfS1 c s2).1, 0, 1 + ((nextS c (rfS2 c s2).2 4).1 : Int), true⟩ = m := by unfold addR; rw [if_neg hat0]
        rw [had] at h5' g1 g2
        repeat (first | (refine r_put (p_bin (b_sub (c := (n : Int)) (by omega) (by omega) (by omega)) rfl rfl rfl) rfl rfl ?_; conv => whnf) | ((first | refine qb rfl rfl ?_ | refine qi (by assumption) rfl rfl ?_ | refine ql rfl ?_ | refine qo rfl rfl ?_ | refine qs rfl rfl ?_ | refine qn rfl rfl ?_); conv => whnf) | (refine r_step (p_ostore rfl rfl rfl rfl rfl (by conv => lhs; whnf) rfl) rfl rfl (fun e => by first | exact .inl rfl | contradiction | exact .inr (.inl (by kernel_rfl))) ?_; conv => whnf) | (refine qc (hat) rfl ?_; conv => whnf))
        exact ⟨⟨(n, (rfS4 c s2).2, m), k4.le (by omega), by omega, g1, by simp; omega, h5'⟩, by refine ⟨?_, ?_⟩ <;> (repeat (first | trivial | exact ⟨rfl, trivial⟩ | refine ⟨rfl, ?_⟩ | refine ⟨.inl ⟨rfl, rfl⟩, ?_⟩ | refine ⟨.inr ⟨_, _, rfl, rfl, rfl, rfl, rfl⟩, ?_⟩)), by simp⟩
    · rw [decide_eq_false h6]
      have hf : rfS c s2 = ⟨(rfS1 c s2).1, 1 + ((nextS c (rfS1 c s2).2 9).1 : Int), 1 + ((nextS c (rfS2 c s2).2 4).1 : Int), false⟩ := by unfold rfS; rw [if_neg (show ¬ (rfS4 c s2).1 = 5 - 1 from h6)]; rfl
      rw [hf] at h5' g1 g2
      conv => whnf
      by_cases hat0 : rAt m (rfS1 c s2).1 0 < 0
      · have had : addR m ⟨(rfS1 c s2).1, 1 + ((nextS c (rfS1 c s2).2 9).1 : Int), 1 + ((nextS c (rfS2 c s2).2 4).1 : Int), false⟩ = m ++ [⟨(rfS1 c s2).1, 1 + ((nextS c (rfS1 c s2).2 9).1 : Int), 1 + ((nextS c (rfS2 c s2).2 4).1 : Int), false⟩] := by unfold addR; rw [if_pos hat0]
        rw [had] at h5' g1 g2
        repeat (first | (refine r_put (p_bin (b_sub (c := (n : Int)) (by omega) (by omega) (by omega)) rfl rfl rfl) rfl rfl ?_; conv => whnf) | ((first | refine qb rfl rfl ?_ | refine qi (by assumption) rfl rfl ?_ | refine ql rfl ?_ | refine qo rfl rfl ?_ | refine qs rfl rfl ?_ | refine qn rfl rfl ?_); conv => whnf) | (refine r_step (p_ostore rfl rfl rfl rfl rfl (by conv => lhs; whnf) rfl) rfl rfl (fun e => by first | exact .inl rfl | contradiction | exact .inr (.inl (by kernel_rfl))) ?_; conv => whnf) | (refine qc (hat) rfl ?_; conv => whnf) | (refine r_step (p_app1r (f := refA) (xs := m) ⟨(rfS1 c s2).1, 1 + ((nextS c (rfS1 c s2).2 9).1 : Int), 1 + ((nextS c (rfS2 c s2).2 4).1 : Int), false⟩ (m ++ [⟨(rfS1 c s2).1, 1 + ((nextS c (rfS1 c s2).2 9).1 : Int), 1 + ((nextS c (rfS2 c s2).2 4).1 : Int), false⟩]) rfl (by omega) rfl rfl rfl rfl rfl rfl rfl) rfl rfl (fun e => by first | exact .inl rfl | contradiction | exact .inr (.inl (by kernel_rfl))) ?_; conv => whnf))
        exact ⟨⟨(n, (rfS4 c s2).2, m ++ [⟨(rfS1 c s2).1, 1 + ((nextS c (rfS1 c s2).2 9).1 : Int), 1 + ((nextS c (rfS2 c s2).2 4).1 : Int), false⟩]), k4.le (by omega), by omega, g1, by simp; omega, h5'⟩, by refine ⟨?_, ?_⟩ <;> (repeat (first | trivial | exact ⟨rfl, trivial⟩ | refine ⟨rfl, ?_⟩ | refine ⟨.inl ⟨rfl, rfl⟩, ?_⟩ | refine ⟨.inr ⟨_, _, rfl, rfl, rfl, rfl, rfl⟩, ?_⟩)), by simp⟩
      · have had : addR m ⟨(rfS1 c s2).1, 1 + ((nextS c (rfS1 c s2).2 9).1 : Int), 1 + ((nextS c (rfS2 c s2).2 4).1 : Int), false⟩ = m := by unfold addR; rw [if_neg hat0]
        rw [had] at h5' g1 g2
        repeat (first | (refine r_put (p_bin (b_sub (c := (n : Int)) (by omega) (by omega) (by omega)) rfl rfl rfl) rfl rfl ?_; conv => whnf) | ((first | refine qb rfl rfl ?_ | refine qi (by assumption) rfl rfl ?_ | refine ql rfl ?_ | refine qo rfl rfl ?_ | refine qs rfl rfl ?_ | refine qn rfl rfl ?_); conv => whnf) | (refine r_step (p_ostore rfl rfl rfl rfl rfl (by conv => lhs; whnf) rfl) rfl rfl (fun e => by first | exact .inl rfl | contradiction | exact .inr (.inl (by kernel_rfl))) ?_; conv => whnf) | (refine qc (hat) rfl ?_; conv => whnf))
        exact ⟨⟨(n, (rfS4 c s2).2, m), k4.le (by omega), by omega, g1, by simp; omega, h5'⟩, by refine ⟨?_, ?_⟩ <;> (repeat (first | trivial | exact ⟨rfl, trivial⟩ | refine ⟨rfl, ?_⟩ | refine ⟨.inl ⟨rfl, rfl⟩, ?_⟩ | refine ⟨.inr ⟨_, _, rfl, rfl, rfl, rfl, rfl⟩, ?_⟩)), by simp⟩
noncomputable def rfD (c : List UInt8) : List Rf := (refsS c (src0 c)).1
theorem rfD_ok (c : List UInt8) : GoodR (rfD c) ∧ (rfD c).length ≤ 8 := (refsS_ok (src0_ok c)).2
theorem ac_RefsDrawn {c : List UInt8} (hc : c.length ≤ maxLen) : AC Try.prog 95 [.lst 1 (c.map bytA)] ⟨.lst 4 ((rfD c).map refA), []⟩ := by
  have h1 := ac_source hc
  have h2 := ac_refs hc (src0_ok c) (by omega)
  unfold rfD
  refine r_of Th_ok (by kernel_rfl) Try.func95 rfl Try.ntmps95 Try.results95 (by kernel_rfl) rfl ?_; conv => whnf
  repeat (first | ((first | refine qb rfl rfl ?_ | refine qi (by assumption) rfl rfl ?_ | refine ql rfl ?_ | refine qo rfl rfl ?_ | refine qs rfl rfl ?_ | refine qn rfl rfl ?_); conv => whnf) | (refine qf (h1) rfl ?_; conv => whnf))
  (refine r_step (p_callg [5] (h2) rfl rfl (by first | exact ⟨rfl, trivial⟩ | exact ⟨rfl, rfl, trivial⟩ | exact ⟨rfl, rfl, rfl, trivial⟩) rfl rfl (by first | exact trivial | exact ⟨⟨rfl, rfl, rfl⟩, trivial⟩ | exact ⟨⟨rfl, rfl, rfl⟩, ⟨rfl, rfl, rfl⟩, trivial⟩ | exact ⟨⟨rfl, rfl, rfl⟩, ⟨rfl, rfl, rfl⟩, ⟨rfl, rfl, rfl⟩, trivial⟩) rfl rfl rfl (.inl rfl) rfl) rfl rfl (fun e => by first | exact .inl rfl | contradiction | exact .inr (.inl (by kernel_rfl))) ?_; conv => whnf)
  repeat (((first | refine qb rfl rfl ?_ | refine qi (by assumption) rfl rfl ?_ | refine ql rfl ?_ | refine qo rfl rfl ?_ | refine qs rfl rfl ?_ | refine qn rfl rfl ?_); conv => whnf))
  exact r_lst1 rfl rfl
theorem ac_sameRefs_t {xs : List Rf} (hm : xs.length ≤ 1048576) : AC Try.prog 101 [.lst 4 (xs.map refA), .lst 4 (xs.map refA)] ⟨.v (.bool true), []⟩ := by
  refine r_of Th_ok (by kernel_rfl) Try.func101 rfl Try.ntmps101 Try.results101 (by kernel_rfl) rfl ?_; conv => whnf
  repeat (((first | refine qb rfl rfl ?_ | refine qi (by assumption) rfl rfl ?_ | refine ql rfl ?_ | refine qo rfl rfl ?_ | refine qs rfl rfl ?_ | refine qn rfl rfl ?_); conv => whnf))
  refine r_loop (ι := { k : Nat // k ≤ xs.length }) (fun k => ⟨[(0, .lst 4 (xs.map refA)), (1, .lst 4 (xs.map refA)), (5, .v (.int .i64 (k.1 : Int)))], []⟩) (fun k => xs.length - k.1) ⟨0, Nat.zero_le _⟩ (by refine ⟨?_, ?_⟩ <;> (repeat (first | trivial | exact ⟨rfl, trivial⟩ | refine ⟨rfl, ?_⟩ | refine ⟨.inl ⟨rfl, rfl⟩, ?_⟩ | refine ⟨.inr ⟨_, _, rfl, rfl, rfl, rfl, rfl⟩, ?_⟩))) ?_
  rintro ⟨k, hk⟩
  dsimp only
  conv => whnf
  by_cases hlt : k < xs.length
  · repeat (((first | refine qb rfl rfl ?_ | refine qi (by assumption) rfl rfl ?_ | refine ql rfl ?_ | refine qo rfl rfl ?_ | refine qs rfl rfl ?_ | refine qn rfl rfl ?_); conv => whnf))
    refine .inl ⟨by kernel_rfl, ?_⟩
    conv => whnf
    repeat (first | ((first | refine qb rfl rfl ?_ | refine qi (by assumption) rfl rfl ?_ | refine ql rfl ?_ | refine qo rfl rfl ?_ | refine qs rfl rfl ?_ | refine qn rfl rfl ?_); conv => whnf) | (refine r_put (p_binA (b_rfsame (a := xs[k])) rfl rfl rfl) rfl rfl ?_; conv => whnf))
    exact ⟨⟨k + 1, hlt⟩, by refine ⟨?_, ?_⟩ <;> (repeat (first | trivial | exact ⟨rfl, trivial⟩ | refine ⟨rfl, ?_⟩ | refine ⟨.inl ⟨rfl, rfl⟩, ?_⟩ | refine ⟨.inr ⟨_, _, rfl, rfl, rfl, rfl, rfl⟩, ?_⟩)), by simp; omega⟩
  · repeat (((first | refine qb rfl rfl ?_ | refine qi (by assumption) rfl rfl ?_ | refine ql rfl ?_ | refine qo rfl rfl ?_ | refine qs rfl rfl ?_ | refine qn rfl rfl ?_); conv => whnf))
    exact r_ret1 rfl trivial
end Go.Proofs.Ytjhimcddgkoghaa.AM
