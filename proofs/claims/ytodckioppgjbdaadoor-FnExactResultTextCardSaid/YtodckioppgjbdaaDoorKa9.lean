/- Texts of the machine over data, folded. -/
import Derived.Test.YtodckioppgjbdaaDoorKa5
import Derived.Test.YtodckioppgjbdaaDoorKa8
set_option linter.unusedVariables false
set_option linter.unusedSimpArgs false
set_option maxRecDepth 100000
namespace Go.Proofs.YtodckioppgjbdaaDoor.AM
open Go Go.RowKit
def nAt : List ByteArray → Nat → Int
 | [], _ => -1
 | x :: l, k => if okN x = false then (k : Int) else nAt l (k + 1)
theorem aFq {l : List ByteArray} {k : Nat} (h : k < l.length) : nAt (l.drop k) k = if okN l[k] = false then (k : Int) else nAt (l.drop (k + 1)) (k + 1) := by
 rw [List.drop_eq_getElem_cons h, nAt]
theorem aDe : ∀ (l : List ByteArray) (k : Nat), decide (0 ≤ nAt l k) = !l.all okN
 | [], k => rfl
 | x :: l, k => by
  rw [nAt, List.all_cons]
  cases h : okN x with
  | false => rw [if_pos rfl, Bool.false_and, decide_eq_true (by omega)]; rfl
  | true => rw [if_neg (by decide), Bool.true_and]; exact aDe l (k + 1)
theorem aEz : ∀ (l : List ByteArray) (k : Nat), -1 ≤ nAt l k ∧ nAt l k ≤ k + l.length
 | [], k => by simp [nAt]
 | x :: l, k => by
  have := aEz l (k + 1)
  rw [nAt, List.length_cons]
  split <;> omega
theorem aFr {x : ByteArray} (h : okN x = true) : 0 < x.size := by
 unfold okN Nm.nameOK at h
 have e : x.size = x.data.toList.length := by rw [Array.length_toList]; rfl
 rw [e]
 split at h
 · cases h
 · rename_i c cs hc
   rw [hc]; simp
theorem aEk (n : Nat) : 0 < (wV n).size := by
 show 0 < (wW n).length
 by_cases h : n < 10
 · rw [aA4 h]; simp
 · rw [aCZ h]; simp
theorem aB9 {n : Int} : 0 < (uP n).size := by
 unfold uP
 split
 · rw [ByteArray.size_append, wG]; omega
 · exact aEk _
theorem aEH {sep : ByteArray} {g : Nat → ByteArray} (h0 : 0 < (g 0).size) : ∀ {n : Nat}, 0 < n → 0 < (jn sep g n).size
 | 0, h => by omega
 | i + 1, _ => by
  rw [jn, ByteArray.size_append]
  by_cases hi : i = 0
  · subst hi; omega
  · rw [if_neg hi, ByteArray.size_append]
    have := aEH (sep := sep) h0 (n := i) (by omega)
    omega
theorem aFl {l : List ByteArray} (h : l.all okN = true) (h0 : 0 < l.length) : ¬ (zW l).size = 0 := by
 have h1 : okN l[0] = true := List.all_eq_true.1 h _ (List.getElem_mem h0)
 have h2 := aFr h1
 have h3 : 0 < (zW l).size := aEH (by rw [List.getElem?_eq_getElem h0]; exact h2) h0
 omega
theorem aGj {m : List Ent} (h : yF m = true) (h0 : 0 < m.length) : ¬ (jR m).size = 0 := by
 unfold jR
 rw [if_neg (by omega)]
 have h3 : 0 < (jn ⟨#[44]⟩ (fun i => yh ((m[i]?).getD zEn)) m.length).size := aEH (by
  rw [List.getElem?_eq_getElem h0]
  unfold yh
  rw [ByteArray.size_append, ByteArray.size_append]
  have := aB9 (n := (m[0]).2)
  show 0 < (m[0]).1.size + _ + (uP (m[0]).2).size
  omega) h0
 omega
theorem qm {a l t : ByteArray} {ps : List ByteArray} (hl : ¬ l.size = 0) : spA a (uF l t :: ps) = spA (if t.size = 0 then a else a ++ (((⟨#[32]⟩ ++ l) ++ ⟨#[32]⟩) ++ t)) ps := by
 unfold uF
 by_cases ht : t.size = 0
 · rw [if_pos ht, if_pos ht, aG0 rfl]
 · rw [if_neg ht, if_neg ht, aF0 hl, aE6 ht, aBX, aE6 (by simp only [ByteArray.size_append]; omega)]
   simp only [aFa]
theorem aCG {n : Int} : (uzT n).size = 0 ↔ n = 0 := by
 unfold uzT
 by_cases h : n = 0
 · rw [if_pos h]; exact ⟨fun _ => h, fun _ => rfl⟩
 · rw [if_neg h]
   have := aB9 (n := n)
   exact ⟨fun e => by omega, fun e => absurd e h⟩
theorem aG3 {n : Int} (h : ¬ n = 0) : uzT n = uP n := by unfold uzT; rw [if_neg h]
theorem aFc : ((⟨#[32]⟩ ++ ⟨#[99, 111, 109, 109, 105, 116]⟩) ++ ⟨#[32]⟩ : ByteArray) = ⟨#[32, 99, 111, 109, 109, 105, 116, 32]⟩ := ByteArray.ext (by simp [ByteArray.data_append])
theorem aG7 : ((⟨#[32]⟩ ++ ⟨#[118, 97, 108, 117, 101]⟩) ++ ⟨#[32]⟩ : ByteArray) = ⟨#[32, 118, 97, 108, 117, 101, 32]⟩ := ByteArray.ext (by simp [ByteArray.data_append])
theorem aHW : ((⟨#[32]⟩ ++ ⟨#[107, 101, 121, 115]⟩) ++ ⟨#[32]⟩ : ByteArray) = ⟨#[32, 107, 101, 121, 115, 32]⟩ := ByteArray.ext (by simp [ByteArray.data_append])
theorem aIS : ((⟨#[32]⟩ ++ ⟨#[109, 97, 112]⟩) ++ ⟨#[32]⟩ : ByteArray) = ⟨#[32, 109, 97, 112, 32]⟩ := ByteArray.ext (by simp [ByteArray.data_append])
def mjT (m : List Ent) : ByteArray := jn ⟨#[44]⟩ (fun i => yh ((m[i]?).getD zEn)) m.length
theorem aH0 {r : Rst} (h : RsS r) : u6 r.code = cwT r.code ∧ ¬ (cwT r.code).size = 0 := by
 obtain ⟨n, hn, hc⟩ := h.c
 have e : u6 r.code = cwT r.code := by
  rw [hc, aBz hn]
  unfold cwT
  rw [Int.toNat_natCast, List.getElem?_eq_getElem (show n < zo.length from hn)]; rfl
 refine ⟨e, ?_⟩
 rw [← e, hc, aBz hn]
 exact aGN _ (List.getElem_mem _)
theorem aIE {r : Rst} (h : rsB r = true) : jc [u6 r.code, uF ⟨#[99, 111, 109, 109, 105, 116]⟩ (uzT r.com), uF ⟨#[118, 97, 108, 117, 101]⟩ (uzT r.val), uF ⟨#[107, 101, 121, 115]⟩ (zW r.keys), uF ⟨#[109, 97, 112]⟩ (mjT r.map)] = aAS r := by
 have hs := aE2 h
 have hmap : yF r.map = true := by
  unfold rsB at h
  simp only [Bool.and_eq_true] at h
  exact h.2.2.2.2.1
 obtain ⟨e1, e2⟩ := aH0 hs
 rw [e1, aF0 e2, qm (by decide), qm (by decide), qm (by decide), qm (by decide), aBX, aFc, aG7, aHW, aIS]
 have h1 : (if (uzT r.com).size = 0 then cwT r.code else cwT r.code ++ (⟨#[32, 99, 111, 109, 109, 105, 116, 32]⟩ ++ uzT r.com)) = rT1 r := by
  unfold rT1
  have := hs.m0
  by_cases h0 : r.com = 0
  · rw [if_pos (aCG.2 h0), if_neg (by omega)]
  · rw [if_neg (fun e => h0 (aCG.1 e)), if_pos (by omega), aG3 h0]
 rw [h1]
 have h2 : (if (uzT r.val).size = 0 then rT1 r else rT1 r ++ (⟨#[32, 118, 97, 108, 117, 101, 32]⟩ ++ uzT r.val)) = rT2 r := by
  unfold rT2
  by_cases h0 : r.val = 0
  · rw [if_pos (aCG.2 h0), if_pos h0]
  · rw [if_neg (fun e => h0 (aCG.1 e)), if_neg h0, aG3 h0]
 rw [h2]
 have h3 : (if (zW r.keys).size = 0 then rT2 r else rT2 r ++ (⟨#[32, 107, 101, 121, 115, 32]⟩ ++ zW r.keys)) = rT3 r := by
  unfold rT3
  by_cases h0 : 0 < r.keys.length
  · rw [if_neg (aFl hs.kk h0), if_pos h0]
  · obtain e := List.eq_nil_of_length_eq_zero (by omega : r.keys.length = 0)
    rw [if_pos (by rw [e]; rfl), if_neg h0]
 rw [h3]
 unfold aAS
 by_cases h0 : 0 < r.map.length
 · have e : mjT r.map = jR r.map := by unfold mjT jR; rw [if_neg (by omega)]
   rw [e, if_neg (aGj hmap h0), if_pos h0]
 · obtain e := List.eq_nil_of_length_eq_zero (by omega : r.map.length = 0)
   rw [if_pos (by rw [e]; rfl), if_neg h0]
attribute [local irreducible] xH xJ xP yM yQ Pre ACG
theorem aG4 {s : ByteArray} (h : s.size ≤ maxLen) : AC Tryd.prog 117 [.v (.string s)] ⟨.v (.bool (!okN s)), []⟩ := by
 have c1 := aEa (b := okN s) h rfl
 cases hb : okN s with
 | false =>
  rw [hb] at c1
  refine qrf Tryd.func117 Tryd.ntmps117 Tryd.results117 ?_; conv => whnf
  repeat ((first | refine qz ?_ | refine qc (c1) ?_); conv => whnf)
  exact xI rfl trivial
 | true =>
  rw [hb] at c1
  refine qrf Tryd.func117 Tryd.ntmps117 Tryd.results117 ?_; conv => whnf
  repeat ((first | refine qz ?_ | refine qc (c1) ?_); conv => whnf)
  exact xI rfl trivial
theorem aDJ {l : List ByteArray} (hm : l.length ≤ maxLen) (hk : ∀ s ∈ l, s.size ≤ maxLen) : AC Tryd.prog 147 [.lst 1 (l.map yI), .fn 117 [] []] ⟨.v (.int .i64 (nAt l 0)), []⟩ := by
 unfold maxLen at hm
 refine qrf Tryd.func147 Tryd.ntmps147 Tryd.results147 ?_; conv => whnf
 repeat ((refine qz ?_; conv => whnf))
 refine ul (ι := { k : Nat // k ≤ l.length ∧ nAt (l.drop k) k = nAt l 0 }) (fun k => ⟨[(0, .lst 1 (l.map yI)), (1, .fn 117 [] []), (7, .v (.int .i64 (l.length : Int))), (8, .v (.int .i64 (k.1 : Int)))], []⟩) (fun k => l.length - k.1) ⟨0, Nat.zero_le _, rfl⟩ (by exact qle) ?_
 rintro ⟨k, hk', hd⟩
 dsimp only at hk' hd ⊢
 conv => whnf
 by_cases hlt : k < l.length
 · rw [aFq hlt] at hd
   have hq := aG4 (hk _ (List.getElem_mem hlt))
   cases he : okN l[k] with
   | false =>
    rw [he, if_pos rfl] at hd
    rw [he] at hq
    rw [← hd]
    repeat ((first | refine qz ?_ | refine qr (aBP hq rfl rfl (.inl rfl) trivial rfl rfl) ?_); conv => whnf)
    exact xI rfl trivial
   | true =>
    rw [he, if_neg (by simp)] at hd
    rw [he] at hq
    repeat ((first | refine qz ?_ | refine qr (aBP hq rfl rfl (.inl rfl) trivial rfl rfl) ?_); conv => whnf)
    exact ⟨⟨k + 1, hlt, hd⟩, by exact qle, by simp; omega⟩
 · rw [← hd, List.drop_eq_nil_of_le (by omega)]
   repeat ((refine qz ?_; conv => whnf))
   exact xI rfl trivial
theorem aAw {l : List ByteArray} (hm : l.length ≤ maxLen) (hk : ∀ s ∈ l, s.size ≤ maxLen) : AC Tryd.prog 116 [.lst 1 (l.map yI), .fn 117 [] []] ⟨.v (.bool (!l.all okN)), []⟩ := by
 have c1 := aDJ hm hk
 rw [← aDe l 0]
 have h1 := aEz l 0
 unfold maxLen at hm
 generalize nAt l 0 = n at c1 h1
 by_cases h0 : 0 ≤ n
 · rw [decide_eq_true h0]
   refine qrf Tryd.func116 Tryd.ntmps116 Tryd.results116 ?_; conv => whnf
   repeat ((first | refine qz ?_ | refine qc (c1) ?_); conv => whnf)
   exact xI rfl trivial
 · rw [decide_eq_false h0]
   refine qrf Tryd.func116 Tryd.ntmps116 Tryd.results116 ?_; conv => whnf
   repeat ((first | refine qz ?_ | refine qc (c1) ?_); conv => whnf)
   exact xI rfl trivial
theorem aGv {r : Rst} : rsB r = (aCq r 60 && r.keys.all okN) := by
 unfold rsB aCq
 have h1 : decide (0 ≤ r.code ∧ r.code ≤ 18) = decide (0 ≤ r.code ∧ r.code < 19) := by
  by_cases h : 0 ≤ r.code ∧ r.code ≤ 18
  · rw [decide_eq_true h, decide_eq_true (by omega)]
  · rw [decide_eq_false h, decide_eq_false (by omega)]
 rw [h1]
 simp only [Bool.and_assoc]; rfl
theorem aCM {r : Rst} (hr : r.ok maxLen) : AC Tryd.prog 73 [uG r] ⟨.v (.bool (rsB r)), []⟩ := by
 have c1 := aDK (n := 60) hr
 have c2 := aAw hr.1 hr.2.1
 rw [aGv]
 cases h1 : aCq r 60 with
 | false =>
  rw [h1] at c1
  rw [Bool.false_and]
  refine qrf Tryd.func73 Tryd.ntmps73 Tryd.results73 ?_; conv => whnf
  repeat ((first | refine qz ?_ | refine qc (c1) ?_); conv => whnf)
  exact xI rfl trivial
 | true =>
  rw [h1] at c1
  rw [Bool.true_and]
  cases h2 : r.keys.all okN with
  | false =>
   rw [h2] at c2
   refine qrf Tryd.func73 Tryd.ntmps73 Tryd.results73 ?_; conv => whnf
   repeat ((first | refine qz ?_ | refine qc (c1) ?_ | refine qc (c2) ?_); conv => whnf)
   exact xI rfl trivial
  | true =>
   rw [h2] at c2
   refine qrf Tryd.func73 Tryd.ntmps73 Tryd.results73 ?_; conv => whnf
   repeat ((first | refine qz ?_ | refine qc (c1) ?_ | refine qc (c2) ?_); conv => whnf)
   exact xI rfl trivial
theorem aAz {r : Rst} (h : rsB r = true) : AC Tryd.prog 74 [uG r] ⟨.v (.string (aAS r)), []⟩ := by
 have hs := aE2 h
 have e := aIE h
 obtain ⟨q1, _⟩ := aH0 hs
 have m0 := hs.m0
 have m1 := hs.m1
 have v0 := hs.v0
 have v1 := hs.v1
 have z3 := aC8 hs.kk
 have z4 : (mjT r.map).size ≤ r.map.length * (1 + 27) := kL (by rw [wG]; omega) fun i hi => by
  rw [List.getElem?_eq_getElem hi]
  obtain ⟨p1, p2, p3⟩ := hs.me _ (List.getElem_mem hi)
  exact qV p1 p2 p3
 have hml := hs.ml
 have hkl := hs.kl
 have z1 : (uzT r.com).size ≤ 14 := by
  unfold uzT; split
  · show 0 ≤ 14; omega
  · exact vU (by omega) (by omega)
 have z2 : (uzT r.val).size ≤ 14 := by
  unfold uzT; split
  · show 0 ≤ 14; omega
  · exact vU (by omega) (by omega)
 have z0 : (u6 r.code).size ≤ 8 := by
  obtain ⟨n, hn, hc⟩ := hs.c
  rw [q1, hc]; exact aEj hn
 have lsz : ∀ (l t : ByteArray), l.size ≤ 10 → t.size ≤ 1000 → (uF l t).size ≤ 2100 := fun l t h1 h2 => by
  unfold uF; split
  · show 0 ≤ 2100; omega
  · have := aDu (ps := [l, t]) (B := 1000) (by intro p hp; simp only [List.mem_cons, List.not_mem_nil, or_false] at hp; rcases hp with rfl | rfl <;> omega)
    simp only [List.length_cons, List.length_nil] at this; omega
 have c0 := aAA (x := r.code)
 have c1 := aGJ (n := r.com) (by omega) (by omega)
 have c2 := aAV (l := ⟨#[99, 111, 109, 109, 105, 116]⟩) (t := uzT r.com) (by decide) (by omega)
 have c3 := aGJ (n := r.val) (by omega) (by omega)
 have c4 := aAV (l := ⟨#[118, 97, 108, 117, 101]⟩) (t := uzT r.val) (by decide) (by omega)
 have c5 := aBA (sep := ⟨#[44]⟩) (xs := r.keys) (by omega) (by show (zW r.keys).size ≤ _; omega)
 have c6 := aAV (l := ⟨#[107, 101, 121, 115]⟩) (t := zW r.keys) (by decide) (by omega)
 have c7 := aBB (es := r.map) (by omega) hs.me
 have c8 := aAV (l := ⟨#[109, 97, 112]⟩) (t := mjT r.map) (by decide) (by omega)
 have l1 := lsz ⟨#[99, 111, 109, 109, 105, 116]⟩ (uzT r.com) (by decide) (by omega)
 have l2 := lsz ⟨#[118, 97, 108, 117, 101]⟩ (uzT r.val) (by decide) (by omega)
 have l3 := lsz ⟨#[107, 101, 121, 115]⟩ (zW r.keys) (by decide) (by omega)
 have l4 := lsz ⟨#[109, 97, 112]⟩ (mjT r.map) (by decide) (by omega)
 have c9 := aB1 (ps := [u6 r.code, uF ⟨#[99, 111, 109, 109, 105, 116]⟩ (uzT r.com), uF ⟨#[118, 97, 108, 117, 101]⟩ (uzT r.val), uF ⟨#[107, 101, 121, 115]⟩ (zW r.keys), uF ⟨#[109, 97, 112]⟩ (mjT r.map)]) (by simp) (by
  intro p hp
  simp only [List.mem_cons, List.not_mem_nil, or_false] at hp
  rcases hp with rfl | rfl | rfl | rfl | rfl <;> omega)
 rw [e] at c9
 change AC _ _ _ ⟨.v (.string (mjT r.map)), []⟩ at c7
 change AC _ _ _ ⟨.v (.string (zW r.keys)), []⟩ at c5
 generalize uF ⟨#[99, 111, 109, 109, 105, 116]⟩ (uzT r.com) = L1 at *
 generalize uF ⟨#[118, 97, 108, 117, 101]⟩ (uzT r.val) = L2 at *
 generalize uF ⟨#[107, 101, 121, 115]⟩ (zW r.keys) = L3 at *
 generalize uF ⟨#[109, 97, 112]⟩ (mjT r.map) = L4 at *
 generalize aAS r = R at *
 generalize u6 r.code = L0 at *
 generalize uzT r.com = U1 at *
 generalize uzT r.val = U2 at *
 generalize zW r.keys = U3 at *
 generalize mjT r.map = U4 at *
 refine qrf Tryd.func74 Tryd.ntmps74 Tryd.results74 ?_; conv => whnf
 refine .inr ⟨by kernel_rfl, aCo (by kernel_rfl), ?_⟩
 repeat (first
  | refine vX (aCl rfl rfl rfl) rfl rfl rfl (.inl rfl) (by kernel_rfl) ?_
  | refine vX (aCE rfl rfl rfl rfl rfl rfl rfl) rfl rfl rfl (.inr rfl) (by kernel_rfl) ?_
  | refine yo (z8 c0 rfl rfl rfl trivial rfl rfl rfl) uO rfl rfl (by kernel_rfl) ?_
  | refine yo (z8 c1 rfl rfl rfl trivial rfl rfl rfl) uO rfl rfl (by kernel_rfl) ?_
  | refine yo (z8 c2 rfl rfl rfl trivial rfl rfl rfl) uO rfl rfl (by kernel_rfl) ?_
  | refine yo (z8 c3 rfl rfl rfl trivial rfl rfl rfl) uO rfl rfl (by kernel_rfl) ?_
  | refine yo (z8 c4 rfl rfl rfl trivial rfl rfl rfl) uO rfl rfl (by kernel_rfl) ?_
  | refine yo (z8 c5 rfl rfl rfl trivial rfl rfl rfl) uO rfl rfl (by kernel_rfl) ?_
  | refine yo (z8 c6 rfl rfl rfl trivial rfl rfl rfl) uO rfl rfl (by kernel_rfl) ?_
  | refine yo (z8 c7 rfl rfl rfl trivial rfl rfl rfl) uO rfl rfl (by kernel_rfl) ?_
  | refine yo (z8 c8 rfl rfl rfl trivial rfl rfl rfl) uO rfl rfl (by kernel_rfl) ?_
  | refine yo (aGD [.tmp 5, .tmp 9, .tmp 13, .tmp 17, .tmp 21] [.string L0, .string L1, .string L2, .string L3, .string L4] rfl rfl rfl rfl rfl rfl rfl (by intro c hc; simp only [List.mem_cons, List.not_mem_nil, or_false] at hc; rcases hc with rfl | rfl | rfl | rfl | rfl <;> rfl)) aGQ rfl rfl (by kernel_rfl) ?_
  | refine yo (aFW c9 rfl ⟨by simp [xh, yT], aBH⟩ trivial rfl rfl rfl) uO rfl rfl (by kernel_rfl) ?_
  | refine yo (aDs rfl) aCA rfl rfl (by kernel_rfl) ?_)
 refine aFB ?_
 conv => whnf
 repeat ((refine qz ?_; conv => whnf))
 exact xI rfl trivial
theorem aAx {r : Rst} (hr : r.ok maxLen) : AC Tryd.prog 31 [uG r] ⟨.tup [.v (.string (j4 r).1), .v (.int .i64 (j4 r).2)], []⟩ := by
 have c1 := aCM hr
 unfold j4
 cases h : rsB r with
 | false =>
  rw [h] at c1
  rw [if_neg (by decide)]
  refine qrf Tryd.func31 Tryd.ntmps31 Tryd.results31 ?_; conv => whnf
  repeat ((first | refine qz ?_ | refine qc (c1) ?_); conv => whnf)
  exact qh rfl rfl
 | true =>
  rw [h] at c1
  rw [if_pos rfl]
  have c2 := aAz h
  refine qrf Tryd.func31 Tryd.ntmps31 Tryd.results31 ?_; conv => whnf
  repeat ((first | refine qz ?_ | refine qc (c1) ?_ | refine qc (c2) ?_); conv => whnf)
  exact qh rfl rfl
theorem law_ResultTextP {r : Rst} (hr : r.ok maxLen) : AC Tryd.prog 7 [uG r] ⟨.v (.bool true), []⟩ := aBJ hr (aAx hr)
end Go.Proofs.YtodckioppgjbdaaDoor.AM
