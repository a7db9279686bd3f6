/- Texts of the machine over data, folded. -/
import Derived.Test.YtodckioppgjbdaaGreatDoorKd5
import Derived.Test.YtodckioppgjbdaaGreatDoorKd9
import Derived.Test.YtodckioppgjbdaaGreatDoorKd17
import Derived.Test.YtodckioppgjbdaaGreatDoorKd14
set_option linter.unusedVariables false
set_option linter.unusedSimpArgs false
set_option maxRecDepth 100000
namespace Go.Proofs.YtodckioppgjbdaaGreatDoor.AM
open Go Go.RowKit
def WF (ws : List ByteArray) : Prop := ∃ (x : Wsh) (b : Bool), b = (uW ws).2 ∧ (b = true → x = (uW ws).1) ∧ (b = false → x = zWs) ∧ x.edits.length ≤ 100000 ∧
 ((x.edits = [] ∧ AC Tryz.prog 48 [.lst 1 (ws.map xP)] ⟨.tup [uP x, .v (.bool b)], []⟩) ∨ (b = true ∧ AC Tryz.prog 48 [.lst 1 (ws.map xP)] ⟨.tup [aBu x 0, .v (.bool true)], [⟨107, 3, x.edits.map x9⟩]⟩))
theorem j5 {ws : List ByteArray} (h : (uW ws).2 = false) (ha : AC Tryz.prog 48 [.lst 1 (ws.map xP)] ⟨.tup [uP zWs, .v (.bool false)], []⟩) : WF ws :=
 ⟨zWs, false, h.symm, fun e => (by cases e), fun _ => rfl, Nat.zero_le _, .inl ⟨rfl, ha⟩⟩
theorem aIN {ws : List ByteArray} {x : Wsh} (h : uW ws = (x, true)) (he : x.edits = []) (ha : AC Tryz.prog 48 [.lst 1 (ws.map xP)] ⟨.tup [uP x, .v (.bool true)], []⟩) : WF ws :=
 ⟨x, true, (by rw [h]), fun _ => (by rw [h]), fun e => (by cases e), (by rw [he]; exact Nat.zero_le _), .inl ⟨he, ha⟩⟩
theorem aKr {ws : List ByteArray} {x : Wsh} (h : uW ws = (x, true)) (he : x.edits.length ≤ 100000) (ha : AC Tryz.prog 48 [.lst 1 (ws.map xP)] ⟨.tup [aBu x 0, .v (.bool true)], [⟨107, 3, x.edits.map x9⟩]⟩) : WF ws :=
 ⟨x, true, (by rw [h]), fun _ => (by rw [h]), fun e => (by cases e), he, .inr ⟨rfl, ha⟩⟩
theorem aHw {a n x : ByteArray} {k : Nat} (hk : kdF a 6 = k) (h2 : k ≠ 2) (h6 : k ≠ 6) : uW [a, n, x] = (wsM k [a, n, x], (decide (k ≠ 3) || (zl x).2) && xN (wsM k [a, n, x])) := by
 unfold uW
 simp [hk, h2, h6]
theorem aFz {a n : ByteArray} {rest : List ByteArray} {k : Nat} (hk : kdF a 6 = k) (h2 : k ≠ 2) (h6 : k ≠ 6) (hr : rest.length ≠ 1) : (uW (a :: n :: rest)).2 = false := by
 unfold uW
 by_cases h3 : 3 < (a :: n :: rest).length
 · rw [if_pos (.inr h3)]
 · have h0 : rest.length = 0 := by simp at h3; omega
   obtain rfl := List.eq_nil_of_length_eq_zero h0
   simp [hk, h2, h6]
theorem aHx {ws : List ByteArray} (h : ws.length < 2) : (uW ws).2 = false := by
 unfold uW; rw [if_pos (.inl h)]
theorem aDn {a : ByteArray} : ∀ i, i < 6 → ¬ a = (knd[i]?).getD eY → kdF a 6 ≠ i + 1 := by
 intro i hi h e
 simp only [kdF] at e
 rcases (show i = 0 ∨ i = 1 ∨ i = 2 ∨ i = 3 ∨ i = 4 ∨ i = 5 by omega) with r | r | r | r | r | r <;> subst r <;> (repeat' split at e) <;> first | omega | contradiction
theorem aFH {a n : ByteArray} {rest : List ByteArray} {f g : FuncId} {k : Nat} (hk : kdF a 6 = k) (h2 : k ≠ 2) (h6 : k ≠ 6) (hm : rest.length ≤ 1000000) (hn : n.size ≤ 65536) (hz : ∀ x ∈ rest, x.size ≤ 65536) (h3 : k ≠ 3) (md : ByteArray → Wsh) (hmd : ∀ x, (md x).edits = [] ∧ (md x).source.size ≤ x.size ∧ (md x).key.size ≤ x.size)
 (hws : ∀ x, wsM k [a, n, x] = ⟨k, n, (md x).source, (md x).key, (md x).edits⟩)
 (hd : AC Tryz.prog 43 [.v (.string a)] ⟨.tup [.mix [.fn f [] [], .fn g [] []], .v (.bool true)], []⟩)
 (hg : ∀ x : ByteArray, x.size ≤ 1000000 → AC Tryz.prog g [.v (.string x)] ⟨.tup [uP (md x), .v (.bool true)], []⟩) : WF (a :: n :: rest) := by
 have ck := aAc (w := a)
 rw [hk] at ck
 have cc := vv (t := n) (by omega)
 by_cases hr : rest.length = 1
 · obtain ⟨x, rfl⟩ : ∃ x, rest = [x] := by
    match rest, hr with
    | [x], _ => exact ⟨x, rfl⟩
   have hx := hz x (by simp)
   obtain ⟨m1, m2, m3⟩ := hmd x
   have hR := aHw (n := n) (x := x) hk h2 h6
   rw [decide_eq_true h3, Bool.true_or, Bool.true_and] at hR
   have hw := wu (o := wsM k [a, n, x]) (by
    rw [hws]
    refine ⟨?_, ?_, ?_, ?_, ?_⟩ <;> dsimp only <;> first | (unfold maxLen; omega) | (rw [m1]; simp) | (rw [m1]; intro e he; cases he))
   have ra := aKv (f := f) (hg x (by omega))
   rw [hws] at hw hR
   cases hb : xN ⟨k, n, (md x).source, (md x).key, (md x).edits⟩
   · rw [hb] at hw hR
     exact j5 (by rw [hR]) (aJZ (b := true) (r := md x) hm hd ra ck cc hw)
   · rw [hb] at hw hR
     exact aIN hR m1 (aJ0 (b := true) (r := md x) hm hd ra ck cc hw)
 · have hw := wu (o := ⟨k, n, eB, eB, []⟩) (by
    refine ⟨?_, ?_, ?_, ?_, ?_⟩ <;> dsimp only <;> first | (unfold maxLen; omega) | (intro e he; cases he) | (show _ ≤ maxLen; unfold maxLen; decide))
   exact j5 (aFz hk h2 h6 hr) (aF6 (r := ⟨0, eB, eB, eB, []⟩) hm hd (aF5 hm hr) ck cc hw)
theorem aKq {n : ByteArray} {rest : List ByteArray} (hm : rest.length ≤ 1000000) (hn : n.size ≤ 65536) (hz : ∀ x ∈ rest, x.size ≤ 65536) : WF (⟨#[99, 111, 109, 109, 105, 116]⟩ :: n :: rest) := by
 have hk : kdF ⟨#[99, 111, 109, 109, 105, 116]⟩ 6 = 3 := aAr (k := 3) (by omega) rfl
 have ck := aAc (w := ⟨#[99, 111, 109, 109, 105, 116]⟩)
 rw [hk] at ck
 have cc := vv (t := n) (by omega)
 by_cases hr : rest.length = 1
 · obtain ⟨x, rfl⟩ : ∃ x, rest = [x] := by
    match rest, hr with
    | [x], _ => exact ⟨x, rfl⟩
   have hx := hz x (by simp)
   have hR := aHw (n := n) (x := x) hk (by omega) (by omega)
   rw [show decide ((3 : Nat) ≠ 3) = false from rfl, Bool.false_or] at hR
   have hM : wsM 3 [⟨#[99, 111, 109, 109, 105, 116]⟩, n, x] = ⟨3, n, eB, eB, (zl x).1⟩ := rfl
   rw [hM] at hR
   obtain ⟨hb1, hb2⟩ := aId hx
   have cl := aGN (t := x) (by omega)
   have hl : (kI x).2 = false → (zl x).2 = false := by
    unfold kI zl
    by_cases h0 : x = ⟨#[45]⟩
    · rw [if_pos h0, if_pos h0]; exact fun h => by cases h
    · rw [if_neg h0, if_neg h0]; exact fun h => by dsimp only at h ⊢; rw [h, Bool.false_and]
   have hl2 : (kI x).2 = true → (kI x).1 = (zl x).1 ∧ (zl x).2 = xO (zl x).1 := by
    unfold kI zl
    by_cases h0 : x = ⟨#[45]⟩
    · rw [if_pos h0, if_pos h0]; exact fun _ => ⟨rfl, rfl⟩
    · rw [if_neg h0, if_neg h0]; exact fun h => by dsimp only at h ⊢; rw [h]; exact ⟨by simp, by rw [Bool.true_and]⟩
   have hw := wu (o := ⟨3, n, eB, eB, (kI x).1⟩) (by
    refine ⟨?_, ?_, ?_, ?_, ?_⟩ <;> dsimp only <;> first | (unfold maxLen; omega) | (intro e he; have := hb2 e he; unfold maxLen; omega) | (show _ ≤ maxLen; unfold maxLen; decide))
   cases hok : (kI x).2
   · rw [hok] at cl
     exact j5 (by rw [hR]; show ((zl x).2 && _) = false; rw [hl hok, Bool.false_and]) (aIV hm uf (aEB (aCi cl)) ck cc hw)
   · rw [hok] at cl
     obtain ⟨h1, h2⟩ := hl2 hok
     rw [h1] at cl hw hb1
     cases hb : xN ⟨3, n, eB, eB, (zl x).1⟩
     · rw [hb] at hw hR
       exact j5 (by rw [hR]; simp) (aIW (b := true) hm uf (aEB (aCi cl)) ck cc hw)
     · have he := (aIP hb).2.2.2 rfl
       dsimp only at he
       rw [hb] at hw hR
       rw [h2, he, Bool.true_and] at hR
       exact aKr hR hb1 (aIX (b := true) hm uf (aEB (aCi cl)) ck cc hw)
 · have hw := wu (o := ⟨3, n, eB, eB, []⟩) (by
    refine ⟨?_, ?_, ?_, ?_, ?_⟩ <;> dsimp only <;> first | (unfold maxLen; omega) | (intro e he; cases he) | (show _ ≤ maxLen; unfold maxLen; decide))
   exact j5 (aFz hk (by omega) (by omega) hr) (aF6 (r := ⟨0, eB, eB, eB, []⟩) hm uf (aF5 hm hr) ck cc hw)
theorem aKD {a n : ByteArray} {rest : List ByteArray} (h0 : ¬ a = ⟨#[99, 114, 101, 97, 116, 101]⟩) (h2 : ¬ a = ⟨#[99, 111, 109, 109, 105, 116]⟩) (h3 : ¬ a = ⟨#[109, 101, 114, 103, 101]⟩) (h4 : ¬ a = ⟨#[103, 101, 116]⟩) (hm : rest.length ≤ 1000000) (hn : n.size ≤ 65536) : WF (a :: n :: rest) := by
 have k1 := aDn (a := a) 0 (by omega) h0
 have k3 := aDn (a := a) 2 (by omega) h2
 have k4 := aDn (a := a) 3 (by omega) h3
 have k5 := aDn (a := a) 4 (by omega) h4
 have hle := aEX (w := a) (i := 6)
 have ck := aAc (w := a)
 obtain ⟨k, hk⟩ : ∃ k, kdF a 6 = k := ⟨_, rfl⟩
 rw [hk] at ck k1 k3 k4 k5 hle
 have cc := vv (t := n) (by omega)
 have hd := aCj h0 h2 h3 h4
 have hw := wu (o := ⟨k, n, eB, eB, []⟩) (by
  refine ⟨?_, ?_, ?_, ?_, ?_⟩ <;> dsimp only <;> first | (unfold maxLen; omega) | (intro e he; cases he) | (show _ ≤ maxLen; unfold maxLen; decide))
 by_cases hr : rest.length = 0
 · obtain rfl := List.eq_nil_of_length_eq_zero hr
   have hM : wsM k [a, n] = ⟨k, n, eB, eB, []⟩ := by
    unfold wsM
    rw [if_neg (by omega), if_neg (by omega), if_neg (by omega)]; rfl
   have hR : (uW [a, n]) = if k = 2 ∨ k = 6 then (⟨k, n, eB, eB, []⟩, xN ⟨k, n, eB, eB, []⟩) else (⟨k, n, eY, eY, []⟩, false) := by
    unfold uW
    rw [if_neg (by simp)]
    simp only [List.getElem?_cons_zero, Option.getD_some, hk, List.length_cons, List.length_nil]
    by_cases h26 : k = 2 ∨ k = 6
    · rw [if_pos h26, if_pos (by simp [h26]), hM, decide_eq_true (show k ≠ 3 from k3), Bool.true_or, Bool.true_and]
    · rw [if_neg h26, if_neg (by simp [h26])]; rfl
   cases hb : xN ⟨k, n, eB, eB, []⟩
   · rw [hb] at hw hR
     exact j5 (by rw [hR]; split <;> rfl) (aIT (b := true) hm rfl hd ck cc hw)
   · have hkk := (aIO hb).2
     dsimp only at hkk
     rw [hb, if_pos (by omega)] at hR
     rw [hb] at hw
     exact aIN hR rfl (aIU (b := true) hm rfl hd ck cc hw)
 · refine j5 ?_ (aIS hm hr hd ck cc hw)
   unfold uW
   by_cases h3' : 3 < (a :: n :: rest).length
   · rw [if_pos (.inr h3')]
   · rw [if_neg (by simp at h3' ⊢; omega)]
     have hl : (a :: n :: rest).length = 3 := by simp at h3' ⊢; omega
     simp only [List.getElem?_cons_zero, Option.getD_some, hk, hl]
     by_cases h26 : k = 2 ∨ k = 6
     · rw [if_neg (by simp [h26])]
     · rw [if_pos (by simp [h26])]
       have hk0 : k = 0 := by omega
       subst hk0
       have hwm : xN (wsM 0 (a :: n :: rest)) = false := by
        unfold wsM
        rw [if_neg (by omega), if_neg (by omega), if_neg (by omega)]
        unfold xN opB
        simp
       dsimp only
       rw [hwm, Bool.and_false]
theorem aKp {ws : List ByteArray} (hm : ws.length ≤ 1000000) (hz : ∀ x ∈ ws, x.size ≤ 65536) : WF ws := by
 match ws, hm, hz with
 | [], _, _ => exact j5 (aHx (by simp)) (aB3 (ws := []) (by simp))
 | [a], _, _ => exact j5 (aHx (by simp)) (aB3 (ws := [a]) (by simp))
 | a :: n :: rest, hm, hz =>
  have hm' : rest.length ≤ 1000000 := by simp at hm; omega
  have hn := hz n (by simp)
  have hz' : ∀ x ∈ rest, x.size ≤ 65536 := fun x hx => hz x (by simp [hx])
  have src : ∀ x : ByteArray, (⟨0, eB, x, eB, []⟩ : Wsh).edits = [] ∧ (⟨0, eB, x, eB, []⟩ : Wsh).source.size ≤ x.size ∧ (⟨0, eB, x, eB, []⟩ : Wsh).key.size ≤ x.size := fun x => ⟨rfl, Nat.le_refl _, Nat.zero_le _⟩
  have key : ∀ x : ByteArray, (⟨0, eB, eB, x, []⟩ : Wsh).edits = [] ∧ (⟨0, eB, eB, x, []⟩ : Wsh).source.size ≤ x.size ∧ (⟨0, eB, eB, x, []⟩ : Wsh).key.size ≤ x.size := fun x => ⟨rfl, Nat.zero_le _, Nat.le_refl _⟩
  by_cases h0 : a = ⟨#[99, 114, 101, 97, 116, 101]⟩
  · subst h0
    exact aFH (k := 1) (aAr (k := 1) (by omega) rfl) (by omega) (by omega) hm' hn hz' (by omega) (fun x => ⟨0, eB, x, eB, []⟩) src (fun x => rfl) aA9 (fun x hx => aF2 hx)
  by_cases h2 : a = ⟨#[99, 111, 109, 109, 105, 116]⟩
  · subst h2
    exact aKq hm' hn hz'
  by_cases h3 : a = ⟨#[109, 101, 114, 103, 101]⟩
  · subst h3
    exact aFH (k := 4) (aAr (k := 4) (by omega) rfl) (by omega) (by omega) hm' hn hz' (by omega) (fun x => ⟨0, eB, x, eB, []⟩) src (fun x => rfl) aBZ (fun x hx => aF2 hx)
  by_cases h4 : a = ⟨#[103, 101, 116]⟩
  · subst h4
    exact aFH (k := 5) (aAr (k := 5) (by omega) rfl) (by omega) (by omega) hm' hn hz' (by omega) (fun x => ⟨0, eB, eB, x, []⟩) key (fun x => rfl) aBw (fun x hx => aJO hx)
  exact aKD h0 h2 h3 h4 hm' hn
attribute [local irreducible] xD xJ xQ yD yJ Pre ACG
theorem aGO {t : ByteArray} (h : 65536 < t.size) (hm : t.size ≤ 9223372036854775807) : AC Tryz.prog 13 [.v (.string t)] ⟨.tup [uP zWs, .v (.int .i64 2)], []⟩ := by
 refine qrf Tryz.func13 Tryz.ntmps13 Tryz.results13 ?_; conv => whnf
 repeat ((first | refine qz ?_ | refine qst ?_); conv => whnf)
 exact xS rfl rfl rfl rfl trivial rfl
theorem aJX {t : ByteArray} {k : Int} {nm src key : ByteArray} {b : Bool} (h : t.size ≤ 65536) (hw : AC Tryz.prog 48 [.lst 1 ((vZ t).map xP)] ⟨.tup [.agg [.v (.int .i64 k), .v (.string nm), .v (.string src), .v (.string key), .lst 3 []], .v (.bool b)], []⟩) :
 AC Tryz.prog 13 [.v (.string t)] ⟨.tup [if b = true then .agg [.v (.int .i64 k), .v (.string nm), .v (.string src), .v (.string key), .lst 3 []] else uP zWs, .v (.int .i64 (if b = true then 0 else 3))], []⟩ := by
 have c1 := aBy (t := t) (by omega)
 cases b
 · rw [if_neg (by simp), if_neg (by simp)]
   refine qrf Tryz.func13 Tryz.ntmps13 Tryz.results13 ?_; conv => whnf
   repeat ((first | refine qz ?_ | refine qc (c1) ?_ | refine qc (hw) ?_ | refine qst ?_ | refine qdr ?_); conv => whnf)
   exact xS rfl rfl rfl rfl trivial rfl
 · rw [if_pos rfl, if_pos rfl]
   refine qrf Tryz.func13 Tryz.ntmps13 Tryz.results13 ?_; conv => whnf
   repeat ((first | refine qz ?_ | refine qc (c1) ?_ | refine qc (hw) ?_ | refine qst ?_ | refine qdr ?_); conv => whnf)
   exact xS rfl rfl rfl rfl trivial rfl
theorem aJY {t : ByteArray} {x : Wsh} (h : t.size ≤ 65536) (hw : AC Tryz.prog 48 [.lst 1 ((vZ t).map xP)] ⟨.tup [aBu x 0, .v (.bool true)], [⟨107, 3, x.edits.map x9⟩]⟩) :
 AC Tryz.prog 13 [.v (.string t)] ⟨.tup [aBu x 0, .v (.int .i64 0)], [⟨107, 3, x.edits.map x9⟩]⟩ := by
 have c1 := aBy (t := t) (by omega)
 unfold aBu at hw ⊢
 refine qrf Tryz.func13 Tryz.ntmps13 Tryz.results13 ?_; conv => whnf
 repeat ((first | refine qz ?_ | refine qc (c1) ?_ | refine qc (hw) ?_ | refine qr (uQ rfl rfl rfl rfl) ?_ | refine qr (yU rfl rfl rfl rfl rfl rfl) ?_ | refine qp (zW rfl rfl rfl rfl rfl rfl rfl rfl) ?_ | refine qst ?_ | refine qdr ?_); conv => whnf)
 exact aBS rfl rfl rfl rfl rfl rfl rfl
theorem law_ReadWishP {t : ByteArray} (ht : t.size ≤ maxLen) : AC Tryz.prog 4 [.v (.string t)] ⟨.v (.bool true), []⟩ := by
 have ht' := ht
 unfold maxLen at ht'
 by_cases hl : 1048576 < t.size
 · refine qrf Tryz.func4 Tryz.ntmps4 Tryz.results4 ?_; conv => whnf
   repeat ((refine qz ?_; conv => whnf))
   exact yE rfl trivial
 have hs := aEC ht
 by_cases h0 : 65536 < t.size
 · have hX : aBA t = (zWs, 2) := if_pos h0
   rw [hX] at hs
   exact aBb (x := zWs) (c := 2) (by omega) rfl hs (aGO h0 (by omega))
 obtain ⟨hw1, hw2⟩ := aGI (t := t)
 obtain ⟨x, b, e1, e2, e3, e4, h⟩ := aKp (ws := vZ t) (by omega) (fun w hw => by have := hw2 w hw; omega)
 have hX : aBA t = (x, if b = true then 0 else 3) := by
  unfold aBA
  rw [if_neg h0, ← e1]
  cases b
  · rw [if_neg (by simp), if_neg (by simp), e3 rfl]
  · rw [if_pos rfl, if_pos rfl, e2 rfl]
 rw [hX] at hs
 dsimp only at hs
 rcases h with ⟨he, ha⟩ | ⟨hb, ha⟩
 · obtain ⟨k, nm, src, key, es⟩ := x
   dsimp only at he
   subst he
   have hr := aJX (t := t) (by omega) ha
   refine aBb (by omega) rfl hs ?_
   cases b
   · rw [e3 rfl]
     rw [if_neg (by simp), if_neg (by simp)] at hr
     rw [if_neg (by simp)]
     exact hr
   · rw [if_pos rfl, if_pos rfl] at hr
     rw [if_pos rfl]
     exact hr
 · subst hb
   exact aFU (x := x) (c := 0) (by omega) (by have h1 := aIt t; rw [hX] at h1; dsimp only at h1; omega) hs (aJY (by omega) ha)
end Go.Proofs.YtodckioppgjbdaaGreatDoor.AM
