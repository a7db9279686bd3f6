/- Texts of the machine over data, folded. -/
import Derived.Test.YtfomjajdfaoogaaGreatDoorKa6
import Derived.Test.YtfomjajdfaoogaaGreatDoorKa8
import Derived.Laws.LoneSync
import Derived.Laws.ResultCell
import Derived.Laws.StructEq
import Derived.Test.YtfomjajdfaoogaaGreatDoorKa7
import Derived.Test.YtfomjajdfaoogaaGreatDoorKa9
import Derived.Laws.Rows
import Derived.StillTailTactics
import Derived.Test.YtfomjajdfaoogaaGreatDoorKa5
set_option linter.unusedVariables false
set_option linter.unusedSimpArgs false
set_option maxRecDepth 100000
namespace Go.Proofs.YtfomjajdfaoogaaGreatDoor
open Go Go.RowKit
def aPu (n : ByteArray) (h v : Int) (g : Bool) : Array Value := #[.string n, .int .i64 h, .int .i64 v, .bool g]
theorem aEL : Tryz.prog.underlying 86 = some (.struct (Tryz.prog.fieldsOf 86)) := by kernel_rfl
theorem aFa : Tryz.prog.stoodInHeld 86 = false := by kernel_rfl
theorem aIF : Tryz.prog.eqGuardType Tryz.prog.depth 86 = false := by kernel_rfl
theorem aOg (a b : ByteArray) (x y x' y' : Int) (g h : Bool) (w : World) : (Op.equalIn 10000 86 (.agg (aPu a x x' g)) (.agg (aPu b y y' h))).run Tryz.prog w = .ok (decide (a = b ∧ x = y ∧ x' = y' ∧ g = h)) w := by
 unfold aPu
 have hf := Option.some.inj (aEL.symm.trans Tryz.underlying86)
 injection hf with hf
 rw [run_equalIn_struct w 9999 _ _ _ aEL aFa, hf]
 have q0 : ∀ (s : ByteArray) (n n' : Int) (c : Bool) (w : World), (part 9 #[.string s, .int .i64 n, .int .i64 n', .bool c] 0).run Tryz.prog w = .ok (.string s) w := fun s n n' c w => rfl
 have q1 : ∀ (s : ByteArray) (n n' : Int) (c : Bool) (w : World), (part 3 #[.string s, .int .i64 n, .int .i64 n', .bool c] 1).run Tryz.prog w = .ok (.int .i64 n) w := fun s n n' c w => rfl
 have q2 : ∀ (s : ByteArray) (n n' : Int) (c : Bool) (w : World), (part 3 #[.string s, .int .i64 n, .int .i64 n', .bool c] 2).run Tryz.prog w = .ok (.int .i64 n') w := fun s n n' c w => rfl
 have q3 : ∀ (s : ByteArray) (n n' : Int) (c : Bool) (w : World), (part 4 #[.string s, .int .i64 n, .int .i64 n', .bool c] 3).run Tryz.prog w = .ok (.bool c) w := fun s n n' c w => rfl
 have r0 := fun a b w => run_equalIn_string (P := Tryz.prog) w 9998 9 a b Tryz.underlying9
 have r1 := fun a b w => run_equalIn_int (P := Tryz.prog) w 9998 3 .i64 .i64 a b Tryz.underlying3
 have r2 := fun a b w => run_equalIn_bool' (P := Tryz.prog) w 9998 4 a b Tryz.underlying4
 by_cases h1 : a = b
 · subst h1
   by_cases h2 : x = y
   · subst h2
     by_cases h3 : x' = y'
     · subst h3
       cases g <;> cases h <;> simp [Op.eqFields, q0, q1, q2, q3, r0, r1, r2, Result.andThen]
     · simp [Op.eqFields, q0, q1, q2, q3, r0, r1, r2, Result.andThen, h3]
   · simp [Op.eqFields, q0, q1, q2, q3, r0, r1, r2, Result.andThen, h2]
 · simp [Op.eqFields, q0, q1, q2, q3, r0, r1, r2, Result.andThen, vP, h1]
theorem aI2 : ∀ (l : List AM.Rf) (k : Nat) (h : k < l.length), (AM.refsC l)[k * 4]? = some (.string l[k].name) ∧ (AM.refsC l)[k * 4 + 1]? = some (.int .i64 l[k].head) ∧ (AM.refsC l)[k * 4 + 2]? = some (.int .i64 l[k].ver) ∧ (AM.refsC l)[k * 4 + 3]? = some (.bool l[k].gone)
 | r :: l, 0, _ => by simp [AM.refsC, AM.refC]
 | r :: l, k + 1, h => by
  have ih := aI2 l k (by simpa using h)
  have e : AM.refsC (r :: l) = AM.refC r ++ AM.refsC l := rfl
  have hx : ∀ i, (AM.refsC (r :: l))[(k + 1) * 4 + i]? = (AM.refsC l)[k * 4 + i]? := fun i => by
   rw [e, List.getElem?_append_right (by simp [AM.refC]; omega)]
   congr 1; simp [AM.refC]; omega
  have h0 := hx 0
  simp only [Nat.add_zero] at h0
  rw [h0, hx 1, hx 2, hx 3]
  exact ih
theorem Rd.rf {w wr : World} {A : Option Addr} {n : Nat} {l : List AM.Rf} (h : Rd w 4 A n (AM.refsC l)) (hb : Below w.heap.size w wr) {k : Nat} (hk : k < l.length) :
 ∃ b off, A = some ⟨b, off, none⟩ ∧ b < w.heap.size ∧ b < wr.heap.size ∧ wr.cell? ⟨b, off + k * 4, none⟩ = some (.string l[k].name) ∧ wr.cell? ⟨b, off + k * 4 + 1, none⟩ = some (.int .i64 l[k].head) ∧ wr.cell? ⟨b, off + k * 4 + 2, none⟩ = some (.int .i64 l[k].ver) ∧ wr.cell? ⟨b, off + k * 4 + 3, none⟩ = some (.bool l[k].gone) := by
 have hl := AM.refsC_length l
 obtain ⟨b, off, e, hlt, hc⟩ := h.2 (by have := h.1; omega)
 obtain ⟨e1, e2, e3, e4⟩ := aI2 l k hk
 refine ⟨b, off, e, hlt, Nat.lt_of_lt_of_le hlt hb.size, ?_, ?_, ?_, ?_⟩
 · exact (hb.cell (p := ⟨b, off + k * 4, none⟩) hlt).trans (hc _ _ e1)
 · exact (hb.cell (p := ⟨b, off + k * 4 + 1, none⟩) hlt).trans (hc _ _ e2)
 · exact (hb.cell (p := ⟨b, off + k * 4 + 2, none⟩) hlt).trans (hc _ _ e3)
 · exact (hb.cell (p := ⟨b, off + k * 4 + 3, none⟩) hlt).trans (hc _ _ e4)
end Go.Proofs.YtfomjajdfaoogaaGreatDoor
namespace Go.Proofs.YtfomjajdfaoogaaGreatDoor.AM
open Go Go.RowKit
abbrev aUB (l : List Rf) : OB := ⟨86, 4, l.map yL⟩
theorem ql {s : St} {Θ : Tab} {t1 t2 : Nat} {y1 y2 : AV} (h1 : aAg s [] (s.sl t1) y1) (h2 : aAg s [] (s.sl t2) y2) : vg Θ [.tmp t1, .tmp t2] ⟨.tup [y1, y2], []⟩ .ret s :=
 ⟨trivial, [], by simp, trivial, ⟨trivial, trivial, trivial⟩, ⟨_, rfl⟩, ⟨h1, h2, trivial⟩⟩
def aAV (l : List Rf) (j : Nat) (h : Int) (g : Bool) : List Rf := match l[j]? with | some r => l.set j ⟨r.name, h, r.ver + 1, g⟩ | none => l
theorem aEz {l : List Rf} {j : Nat} (hj : j < l.length) (h : Int) (g : Bool) : aAV l j h g = l.set j ⟨l[j].name, h, l[j].ver + 1, g⟩ := by unfold aAV; rw [List.getElem?_eq_getElem hj]
def mkR (l : List Rf) (x : ByteArray) (h : Int) : List Rf × Int :=
 match l[(rAt l x 0).toNat]? with
 | some r => if 0 ≤ rAt l x 0 then (if r.gone = false then (l, 14) else if r.ver = 1000000 then (l, 7) else (aAV l (rAt l x 0).toNat h false, 0)) else if l.length = 8 then (l, 7) else (l ++ [⟨x, h, 1, false⟩], 0)
 | none => if l.length = 8 then (l, 7) else (l ++ [⟨x, h, 1, false⟩], 0)
def dlR (l : List Rf) (x : ByteArray) : List Rf × Int :=
 match l[(wF l x).toNat]? with
 | some r => if 0 ≤ wF l x then (if r.ver = 1000000 then (l, 7) else (aAV l (wF l x).toNat 0 true, 0)) else (l, 10)
 | none => (l, 10)
theorem aOK {l : List Rf} {x : ByteArray} {h : Int} (e : rAt l x 0 < 0) : mkR l x h = if l.length = 8 then (l, 7) else (l ++ [⟨x, h, 1, false⟩], 0) := by
 unfold mkR; split
 · rw [if_neg (by omega)]
 · rfl
theorem aOJ {l : List Rf} {x : ByteArray} {h : Int} {j : Nat} (hj : j < l.length) (e : rAt l x 0 = (j : Int)) : mkR l x h = if l[j].gone = false then (l, 14) else if l[j].ver = 1000000 then (l, 7) else (aAV l j h false, 0) := by
 unfold mkR
 have : l[(rAt l x 0).toNat]? = some l[j] := by rw [e]; simp [hj]
 rw [this, e]; simp
theorem aNm {l : List Rf} {x : ByteArray} (e : wF l x = -1) : dlR l x = (l, 10) := by
 unfold dlR; split
 · rw [if_neg (by omega)]
 · rfl
theorem aNl {l : List Rf} {x : ByteArray} {j : Nat} (hj : j < l.length) (e : wF l x = (j : Int)) : dlR l x = if l[j].ver = 1000000 then (l, 7) else (aAV l j 0 true, 0) := by
 unfold dlR
 have : l[(wF l x).toNat]? = some l[j] := by rw [e]; simp [hj]
 rw [this, e]; simp
theorem aGx {l : List Rf} (hb : uy l = true) {j : Nat} (hj : j < l.length) : 1 ≤ l[j].ver ∧ l[j].ver ≤ 1000000 := by
 obtain ⟨_, h1, _⟩ := (zH hb).2 j hj
 unfold kU at h1
 simp only [Bool.and_eq_true, decide_eq_true_eq] at h1
 exact h1.2.1
theorem aI1 : ∀ (l m : List Rf) (x : ByteArray) (k : Nat), l.map (·.name) = m.map (·.name) → rAt l x k = rAt m x k
 | [], [], _, _, _ => rfl
 | [], _ :: _, _, _, h => by simp at h
 | _ :: _, [], _, _, h => by simp at h
 | a :: l, b :: m, x, k, h => by
  simp only [List.map_cons, List.cons.injEq] at h
  unfold rAt
  rw [h.1, aI1 l m x (k + 1) h.2]
theorem aOo {l : List Rf} {j : Nat} {y : Rf} (hj : j < l.length) (hy : y.name = l[j].name) : (l.set j y).map (·.name) = l.map (·.name) := by
 rw [List.map_set, hy]
 refine List.ext_getElem (by simp) fun i h1 h2 => ?_
 rw [List.getElem_set]
 split
 · rename_i e; subst e; simp
 · rfl
theorem aOh {l : List Rf} (hb : uy l = true) {j : Nat} {y : Rf} (hj : j < l.length) (hy : y.name = l[j].name) (hr : kU y = true) : uy (l.set j y) = true := by
 obtain ⟨h1, h2⟩ := zH hb
 have hn := aOo hj hy
 refine aAe ⟨by simpa using h1, fun i hi => ?_⟩
 have hi' : i < l.length := by simpa using hi
 obtain ⟨_, a, b⟩ := h2 i hi'
 have e1 : ((l.set j y)[i]).name = l[i].name := by
  have := congrArg (fun q => q[i]?) hn
  simp only [List.getElem?_map, List.getElem?_eq_getElem hi, List.getElem?_eq_getElem hi', Option.map_some] at this
  exact Option.some.inj this
 refine ⟨hi, ?_, ?_⟩
 · rw [List.getElem_set]
   split
   · exact hr
   · exact a
 · rw [e1, aI1 ((l.set j y).take i) (l.take i) _ _ (by rw [List.map_take, List.map_take, hn])]
   exact b
theorem aAd (r : Rf) : kU r = true ↔ okN r.name = true ∧ (1 ≤ r.ver ∧ r.ver ≤ 1000000) ∧ (if r.gone = true then r.head = 0 else 1 ≤ r.head ∧ r.head ≤ 60) := by
 unfold kU
 simp only [Bool.and_eq_true, decide_eq_true_eq]
 constructor
 · rintro ⟨a, b, c⟩; refine ⟨a, b, ?_⟩; split at c <;> simp_all
 · rintro ⟨a, b, c⟩; refine ⟨a, b, ?_⟩; split at c <;> simp_all
structure GoodR (l : List Rf) : Prop where
 ok : uy l = true
 small : ∀ r ∈ l, r.ver ≤ 4 ∧ r.name.size ≤ 12
theorem GoodR.nil : GoodR [] := ⟨aAe ⟨by simp, fun i h => by simp at h⟩, by simp⟩
theorem GoodR.snoc {l : List Rf} (h : GoodR l) (hl : l.length < 8) {r : Rf} (hr : kU r = true) (hv : r.ver ≤ 4) (hs : r.name.size ≤ 12) (hn : rAt l r.name 0 < 0) : GoodR (l ++ [r]) := by
 obtain ⟨_, h2⟩ := zH h.ok
 refine ⟨aAe ⟨by simp; omega, fun i hi => ?_⟩, fun x hx => ?_⟩
 · rcases Nat.lt_or_ge i l.length with q | q
   · obtain ⟨_, a, b⟩ := h2 i q
     refine ⟨hi, by rw [List.getElem_append_left q]; exact a, ?_⟩
     rw [List.getElem_append_left q, List.take_append_of_le_length (by omega)]; exact b
   · have : i = l.length := by simp at hi; omega
     subst this
     refine ⟨hi, by simpa using hr, ?_⟩
     have e : (l ++ [r])[l.length] = r := by simp
     rw [e, List.take_append_of_le_length (by omega), List.take_length]; exact hn
 · rcases List.mem_append.1 hx with hx | hx
   · exact h.small x hx
   · rw [List.mem_singleton.1 hx]; exact ⟨hv, hs⟩
attribute [local irreducible] xI xO xQ xX yG Pre ACG
theorem aCO {l : List Rf} {j : Nat} {h : Int} {g : Bool} (hj : j < l.length) (hm : l.length ≤ 1048576) (hv : 0 ≤ l[j].ver) (hv' : l[j].ver ≤ 1000000) : AC Tryz.prog 136 [.lst 4 (l.map yL), .v (.int .i64 (j : Int)), .v (.int .i64 h), .v (.bool g)] ⟨.own 0, [aUB (aAV l j h g)]⟩ := by
 rw [aEz hj]
 have hq : (l.map yL)[j]? = some (yL l[j]) := by simp [hj]
 refine qrf Tryz.func136 Tryz.ntmps136 Tryz.results136 ?_; conv => whnf
 repeat (first | (refine qz ?_; conv => whnf) | (refine qdr ?_; conv => whnf) | (refine qr (aGm (xs := ([] : List Rf)) (ys := l) (f := yL) (by simp; omega) rfl rfl rfl rfl rfl rfl) ?_; conv => whnf))
 repeat (first | refine qP (zX (by simpa using hj) rfl rfl rfl rfl rfl) ?_ | refine qP (uG rfl rfl rfl) ?_ | (refine qp (xC (zN (c := l[j].ver + 1) rfl (by omega) (by omega)) rfl rfl rfl) ?_; conv => whnf) | (refine qp (zO rfl rfl (aOn (by simpa using hj)) rfl rfl rfl rfl) ?_; conv => whnf) | (refine qr (y8 hq rfl rfl rfl rfl rfl rfl) ?_; conv => whnf) | (refine qr (y8 (aOn (by simpa using hj)) rfl rfl rfl rfl rfl rfl) ?_; conv => whnf) | (refine qz ?_; conv => whnf))
 refine aET rfl (congrArg (fun x => some (OB.mk (ET.s 86) 4 x)) (?_ : (((([] ++ l).map yL).set j _).set j _).set j _ = (l.set j _).map yL))
 rw [List.set_set, List.set_set, List.map_set]; rfl
theorem aJQ {l : List Rf} {x : ByteArray} {h : Int} (hm : l.length ≤ 1048576) (hb : uy l = true) : AC Tryz.prog 112 [.lst 4 (l.map yL), .v (.string x), .v (.int .i64 h)] ⟨.tup [.lst 4 ((mkR l x h).1.map yL), .v (.int .i64 (mkR l x h).2)], []⟩ := by
 have h1 := aF2 (l := l) (x := x) (by unfold maxLen; omega)
 have hge := @aO7 l x
 by_cases h0 : rAt l x 0 < 0
 · rw [aOK h0]
   have e : rAt l x 0 = -1 := by omega
   rw [e] at h1
   by_cases h8 : l.length = 8
   · rw [if_pos h8]
     refine qrf Tryz.func112 Tryz.ntmps112 Tryz.results112 ?_; conv => whnf
     repeat ((first | refine qz ?_ | refine qdr ?_ | refine qc (h1) ?_); conv => whnf)
     exact ql (wW rfl trivial) (wW rfl trivial)
   · rw [if_neg h8]
     refine qrf Tryz.func112 Tryz.ntmps112 Tryz.results112 ?_; conv => whnf
     repeat (first | (refine qz ?_; conv => whnf) | (refine qdr ?_; conv => whnf) | (refine qc (h1) ?_; conv => whnf) | (refine qr (aGm (xs := ([] : List Rf)) (ys := l) (f := yL) (by simp; omega) rfl rfl rfl rfl rfl rfl) ?_; conv => whnf) | (refine qr (vH (f := yL) (xs := l) ⟨x, h, 1, false⟩ (l ++ [⟨x, h, 1, false⟩]) rfl (by omega) rfl rfl rfl rfl rfl rfl rfl) ?_; conv => whnf))
     exact ql (aCd rfl rfl) (wW rfl trivial)
 · obtain ⟨j, hj, e, _⟩ := aGs (by omega : 0 ≤ rAt l x 0)
   rw [aOJ hj e]
   rw [e] at h1
   obtain ⟨v0, v1⟩ := aGx hb hj
   have hs := aCO (h := h) (g := false) hj hm (by omega) v1
   cases hg : l[j].gone with
   | false =>
    rw [if_pos rfl]
    refine qrf Tryz.func112 Tryz.ntmps112 Tryz.results112 ?_; conv => whnf
    repeat (first | (refine qz ?_; conv => whnf) | (refine qdr ?_; conv => whnf) | (refine qc (h1) ?_; conv => whnf) | (rw [hg]; conv => whnf))
    exact ql (wW rfl trivial) (wW rfl trivial)
   | true =>
    rw [if_neg (by simp)]
    by_cases hv : l[j].ver = 1000000
    · rw [if_pos hv]
      refine qrf Tryz.func112 Tryz.ntmps112 Tryz.results112 ?_; conv => whnf
      repeat (first | (refine qz ?_; conv => whnf) | (refine qdr ?_; conv => whnf) | (refine qc (h1) ?_; conv => whnf) | (rw [hg]; conv => whnf))
      exact ql (wW rfl trivial) (wW rfl trivial)
    · rw [if_neg hv]
      refine qrf Tryz.func112 Tryz.ntmps112 Tryz.results112 ?_; conv => whnf
      repeat (first | (refine qz ?_; conv => whnf) | (refine qdr ?_; conv => whnf) | (refine qc (h1) ?_; conv => whnf) | (refine qc (hs) ?_; conv => whnf) | (rw [hg]; conv => whnf))
      exact ql (aCd rfl rfl) (wW rfl trivial)
theorem aJR {l : List Rf} {x : ByteArray} (hm : l.length ≤ 1048576) (hb : uy l = true) : AC Tryz.prog 114 [.lst 4 (l.map yL), .v (.string x)] ⟨.tup [.lst 4 ((dlR l x).1.map yL), .v (.int .i64 (dlR l x).2)], []⟩ := by
 have h1 := jE (l := l) (x := x) (by unfold maxLen; omega)
 rcases aD0 l x with e | ⟨j, hj, e, _, _⟩
 · rw [aNm e]
   rw [e] at h1
   refine qrf Tryz.func114 Tryz.ntmps114 Tryz.results114 ?_; conv => whnf
   repeat ((first | refine qz ?_ | refine qdr ?_ | refine qc (h1) ?_); conv => whnf)
   exact ql (wW rfl trivial) (wW rfl trivial)
 · rw [aNl hj e]
   rw [e] at h1
   obtain ⟨v0, v1⟩ := aGx hb hj
   have hs := aCO (h := 0) (g := true) hj hm (by omega) v1
   by_cases hv : l[j].ver = 1000000
   · rw [if_pos hv]
     refine qrf Tryz.func114 Tryz.ntmps114 Tryz.results114 ?_; conv => whnf
     repeat ((first | refine qz ?_ | refine qdr ?_ | refine qc (h1) ?_); conv => whnf)
     exact ql (wW rfl trivial) (wW rfl trivial)
   · rw [if_neg hv]
     refine qrf Tryz.func114 Tryz.ntmps114 Tryz.results114 ?_; conv => whnf
     repeat ((first | refine qz ?_ | refine qdr ?_ | refine qc (h1) ?_ | refine qc (hs) ?_); conv => whnf)
     exact ql (aCd rfl rfl) (wW rfl trivial)
end Go.Proofs.YtfomjajdfaoogaaGreatDoor.AM
namespace Go.Proofs.YtfomjajdfaoogaaGreatDoor.AM
open Go Go.RowKit
def atS (m : List UInt8) (i n : Nat) : Nat := if n ≤ 1 then 0 else if m.length = 0 then i * 7 % n else ((m.getD (i % m.length) 0).toNat * 31 + (m.getD ((i + 1) % m.length) 0).toNat + i / m.length) % n
theorem aDy {m : List UInt8} {i n : Nat} (hn : 0 < n) : atS m i n < n := by
 unfold atS
 split
 · exact hn
 · split <;> exact Nat.mod_lt _ hn
theorem aN3 {P : Program} {t : TypeId} {x y : Operand} {a b c : Int} (h0 : 0 ≤ a) (h1 : a ≤ 9223372036854775807) (hb : 0 < b) (hc : a / b = c) : yh P .quo t x y (.int .i64 a) (.int .i64 b) (.int .i64 c) := fun w => by
 have hb0 : b ≠ 0 := by omega
 have hle : a / b ≤ a := Int.ediv_le_self b h0
 have hnn : 0 ≤ a / b := Int.ediv_nonneg h0 (by omega)
 have hw : IntKind.i64.wrap (a.tdiv b) = c := by rw [Int.tdiv_eq_ediv_of_nonneg h0, IntKind.wrap_i64, hc]; omega
 have hr : (Op.intDiv .quo .i64 a b).run P w = .ok (.int .i64 c) w := by simp [Op.intDiv, hb0, hw]
 simp [eqGuard, binOp, hr]
attribute [local irreducible] xI xO xQ xX yG Pre ACG
set_option maxHeartbeats 8000000 in
theorem aFw {m : List UInt8} {i n : Nat} (hm : m.length ≤ maxLen) (hi : i ≤ 1000) (hn : n ≤ 1000000) : AC Tryz.prog 4 [.lst 1 (m.map uM), .v (.int .i64 (i : Int)), .v (.int .i64 (n : Int))] ⟨.v (.int .i64 (atS m i n : Int)), []⟩ := by
 unfold maxLen at hm
 unfold atS
 by_cases h1 : n ≤ 1
 · rw [if_pos h1]
   refine qrf Tryz.func4 Tryz.ntmps4 Tryz.results4 ?_; conv => whnf
   repeat ((refine qz ?_; conv => whnf))
   exact xD rfl trivial
 rw [if_neg h1]
 by_cases h2 : m.length = 0
 · rw [if_pos h2]
   have hr : (i : Int) * 7 % (n : Int) = ((i * 7 % n : Nat) : Int) := by rw [Int.natCast_emod, Int.natCast_mul]; rfl
   refine qrf Tryz.func4 Tryz.ntmps4 Tryz.results4 ?_; conv => whnf
   repeat ((first | refine qp (xC (uh (c := (i : Int) * 7) rfl (by omega) (by omega)) rfl rfl rfl) ?_ | refine qp (xC (vE (by omega) (by omega) hr) rfl rfl rfl) ?_ | refine qz ?_); conv => whnf)
   exact xD rfl trivial
 rw [if_neg h2]
 have hl : 0 < m.length := by omega
 have j1 : i % m.length < m.length := Nat.mod_lt _ hl
 have j2 : (i + 1) % m.length < m.length := Nat.mod_lt _ hl
 have g1 : m.getD (i % m.length) 0 = m[i % m.length] := by simp [j1]
 have g2 : m.getD ((i + 1) % m.length) 0 = m[(i + 1) % m.length] := by simp [j2]
 rw [g1, g2]
 have b1 : (m[i % m.length]).toNat < 256 := (m[i % m.length]).toNat_lt
 have b2 : (m[(i + 1) % m.length]).toNat < 256 := (m[(i + 1) % m.length]).toNat_lt
 have r1 : (i : Int) % (m.length : Int) = ((i % m.length : Nat) : Int) := (Int.natCast_emod _ _).symm
 have r2 : ((i + 1 : Nat) : Int) % (m.length : Int) = (((i + 1) % m.length : Nat) : Int) := (Int.natCast_emod _ _).symm
 have d1 : (i : Int) / (m.length : Int) = ((i / m.length : Nat) : Int) := (Int.natCast_ediv _ _).symm
 have d2 : i / m.length ≤ i := Nat.div_le_self _ _
 have hr : (((m[i % m.length]).toNat : Int) * 31 + ((m[(i + 1) % m.length]).toNat : Int) + ((i / m.length : Nat) : Int)) % (n : Int) = ((((m[i % m.length]).toNat * 31 + (m[(i + 1) % m.length]).toNat + i / m.length) % n : Nat) : Int) := by
  rw [Int.natCast_emod]; congr 1
 generalize i / m.length = q at *
 generalize hp1 : i % m.length = p1 at *
 generalize hp2 : (i + 1) % m.length = p2 at *
 refine qrf Tryz.func4 Tryz.ntmps4 Tryz.results4 ?_; conv => whnf
 repeat ((first | refine qp (xC (zN (c := ((i + 1 : Nat) : Int)) (by omega) (by omega) (by omega)) rfl rfl rfl) ?_ | refine qp (xC (vE (by omega) (by omega) r1) rfl rfl rfl) ?_ | refine qp (xC (vE (by omega) (by omega) r2) rfl rfl rfl) ?_ | refine qp (xC (aN3 (by omega) (by omega) (by omega) d1) rfl rfl rfl) ?_ | refine qp (aH7 rfl b1) ?_ | refine qp (aH7 rfl b2) ?_ | refine qp (xC (uh rfl (by omega) (by omega)) rfl rfl rfl) ?_ | refine qp (xC (zN rfl (by omega) (by omega)) rfl rfl rfl) ?_ | refine qp (xC (vE (by omega) (by omega) hr) rfl rfl rfl) ?_ | refine qz ?_ | refine qdr ?_); conv => whnf)
 exact xD rfl trivial
def wS : List ByteArray := [⟨#[109, 97, 105, 110]⟩, ⟨#[100, 101, 118]⟩, ⟨#[102, 105, 120]⟩, ⟨#[111, 108, 100]⟩]
def Nam (x : ByteArray) : Prop := okN x = true ∧ x.size ≤ 12
theorem aIW {x : ByteArray} (h : x ∈ wS) : Nam x := by
 have h1 : (wS.all fun k => okN k && decide (k.size ≤ 12)) = true := by decide +kernel
 have := List.all_eq_true.1 h1 x h
 simpa [Nam] using this
theorem aKL {c : List UInt8} {s : Src} {K : Nat} {l : List ByteArray} (h : s.ok K) (h0 : 0 < l.length) : (wm c s l).2.ok (K + 1) ∧ (wm c s l).1 ∈ l := by
 obtain ⟨h1, h2⟩ := yC (c := c) (n := l.length) h h0
 refine ⟨h1, ?_⟩
 have e : (wm c s l).1 = l[(xB c s l.length).1] := by simp [wm, h2]
 rw [e]; exact List.getElem_mem h2
theorem aNN {c : List UInt8} {s : Src} {K : Nat} (hc : c.length ≤ maxLen) (hs : s.ok K) (hK : K ≤ 1000000000) : ACG Tryz.prog 118 [.optr 0 0 [] 0] [zu c s] [zu c (wm c s wS).2] ⟨.v (.string (wm c s wS).1), []⟩ := by
 have hb : ACG Tryz.prog 129 [.optr 0 0 [] 0, .own 1000000] [zu c s, aHp wS] [zu c (wm c s wS).2, aHp wS] ⟨.v (.string (wm c s wS).1), []⟩ := aLL hc hs hK (by decide) (by decide)
 refine xL (rs := [.tmp 2]) xH (by kernel_rfl) Tryz.func118 rfl Tryz.ntmps118 (by rw [Tryz.results118]) (by kernel_rfl) (by simp) rfl rfl (xA _ _ _ ?_); conv => whnf
 (refine qg [0,5] (hb) ?_; conv => whnf)
 repeat ((refine qz ?_; conv => whnf))
 exact j5 rfl rfl
end Go.Proofs.YtfomjajdfaoogaaGreatDoor.AM
namespace Go.Proofs.YtfomjajdfaoogaaGreatDoor.AM
open Go Go.RowKit
section
variable {base a : List Ent} (hb : yV base = true) (ha : yV a = true)
include hb ha
end
theorem aNk : ∀ (f : Nat) (a b : List Ent) (e : Edt), e ∈ yO f a b → (∃ y ∈ b, e = ⟨y.1, y.2, false⟩) ∨ ∃ x ∈ a, e = ⟨x.1, 0, true⟩ := by
 intro f
 induction f with
 | zero => intro a b e he; simp [yO] at he
 | succ f ih =>
  intro a b e he
  match a, b with
  | [], [] => simp [yO] at he
  | x :: a, [] =>
   rw [yO] at he
   rcases List.mem_cons.1 he with rfl | he
   · exact .inr ⟨x, by simp, rfl⟩
   · rcases ih a [] e he with ⟨y, hy, _⟩ | ⟨y, hy, h⟩
     · cases hy
     · exact .inr ⟨y, by simp [hy], h⟩
  | [], y :: b =>
   rw [yO] at he
   rcases List.mem_cons.1 he with rfl | he
   · exact .inl ⟨y, by simp, rfl⟩
   · rcases ih [] b e he with ⟨z, hz, h⟩ | ⟨z, hz, _⟩
     · exact .inl ⟨z, by simp [hz], h⟩
     · cases hz
  | x :: a, y :: b =>
   rw [yO] at he
   split at he
   · rcases List.mem_cons.1 he with rfl | he
     · exact .inr ⟨x, by simp, rfl⟩
     · rcases ih a (y :: b) e he with h | ⟨z, hz, h⟩
       · exact .inl h
       · exact .inr ⟨z, by simp [hz], h⟩
   · split at he
     · rcases List.mem_cons.1 he with rfl | he
       · exact .inl ⟨y, by simp, rfl⟩
       · rcases ih (x :: a) b e he with ⟨z, hz, h⟩ | h
         · exact .inl ⟨z, by simp [hz], h⟩
         · exact .inr h
     · rcases List.mem_append.1 he with he | he
       · split at he
         · cases he
         · rcases List.mem_singleton.1 he with rfl
           exact .inl ⟨y, by simp, rfl⟩
       · rcases ih a b e he with ⟨z, hz, h⟩ | ⟨z, hz, h⟩
         · exact .inl ⟨z, by simp [hz], h⟩
         · exact .inr ⟨z, by simp [hz], h⟩
theorem Good.diff {a b : List Ent} (ha : Good a) (hb : Good b) : jC (zw a b) :=
 ⟨aOx ha.1 hb.1, fun e he => by
  rcases aNk _ a b e he with ⟨y, hy, rfl⟩ | ⟨x, hx, rfl⟩
  · obtain ⟨h1, h2, h3⟩ := hb.2 y hy
    exact ⟨h1, h2, h3, fun h => by cases h⟩
  · exact ⟨(ha.2 x hx).1, by simp, by simp, fun _ => rfl⟩⟩
theorem jC.ok {xs : List Edt} (h : jC xs) (hl : xs.length ≤ 6) : aHU xs = true := by
 refine aM7 hl fun i hi => ?_
 have he := h.2 _ (List.getElem_mem hi)
 have hs : Srt (kv xs) := by unfold Srt kv; rw [List.pairwise_map]; exact h.1
 refine ⟨aEm (aFV hs fun e hm => ?_) (by rw [aIQ]; exact hi), ?_⟩
 · unfold kv at hm
   obtain ⟨x, hx, rfl⟩ := List.mem_map.1 hm
   exact (aBw (h.2 x hx).1).1
 · rw [aP3 xs i hi, aDj, decide_eq_true (by omega), decide_eq_true (by omega)]
   cases hg : xs[i].gone with
   | false => rfl
   | true => rw [decide_eq_true (he.2.2.2 hg)]; rfl
attribute [local irreducible] xI xO xQ xX yG Pre ACG
def Par (cs : List Cmt) (q p : Nat) : Prop := ∃ h : q - 1 < cs.length, 1 ≤ q ∧ (p : Int) ∈ (cs[q - 1]).1
inductive Anc (cs : List Cmt) (b : Nat) : Nat → Prop
 | refl : Anc cs b b
 | up {q p : Nat} : Anc cs b q → Par cs q p → Anc cs b p
theorem Anc.iff {cs : List Cmt} {b a : Nat} : Anc cs b a ↔ a = b ∨ ∃ q, Anc cs b q ∧ Par cs q a :=
 ⟨fun h => by cases h with
  | refl => exact .inl rfl
  | up h1 h2 => exact .inr ⟨_, h1, h2⟩, fun h => by
  rcases h with rfl | ⟨q, h1, h2⟩
  · exact .refl
  · exact .up h1 h2⟩
theorem aHo {cs : List Cmt} (hb : uO cs = true) {i : Nat} (h : i < cs.length) : aGp i (cs[i]).1 := by
 unfold uO at hb
 simp only [Bool.and_eq_true] at hb
 have := aBl hb.2 i h
 unfold u6 at this
 simp only [Bool.and_eq_true] at this
 have h2 := this.2
 rw [Nat.zero_add] at h2
 unfold jq at h2
 simpa using h2
theorem aMG {cs : List Cmt} (hb : uO cs = true) : 1 ≤ cs.length ∧ cs.length ≤ 60 := by
 unfold uO at hb
 simp only [Bool.and_eq_true, decide_eq_true_eq] at hb
 exact hb.1
theorem Par.lt {cs : List Cmt} (hb : uO cs = true) {q p : Nat} (h : Par cs q p) : 1 ≤ p ∧ p < q ∧ q ≤ cs.length := by
 obtain ⟨h1, h2, h3⟩ := h
 obtain ⟨_, _, k⟩ := aHo hb h1
 obtain ⟨i, hi, e⟩ := List.getElem_of_mem h3
 obtain ⟨_, k1, k2, _⟩ := k i hi
 rw [e] at k1 k2
 exact ⟨by omega, by omega, by omega⟩
theorem Anc.le {cs : List Cmt} (hb : uO cs = true) {b a : Nat} (h : Anc cs b a) (h1 : 1 ≤ b) : 1 ≤ a ∧ a ≤ b := by
 induction h with
 | refl => exact ⟨h1, Nat.le_refl _⟩
 | up _ hp ih => have := hp.lt hb; omega
end Go.Proofs.YtfomjajdfaoogaaGreatDoor.AM
namespace Go.Proofs.YtfomjajdfaoogaaGreatDoor.AM
open Go Go.RowKit
def bA (b : Bool) : AV := .v (.bool b)
def rng (m : Nat) (f : Nat → Bool) : List AV := ((List.range m).map f).map bA
theorem aB4 {m : Nat} {f : Nat → Bool} : (rng m f).length = m := by simp [rng]
theorem aAj {m j : Nat} {f : Nat → Bool} (h : j < m) : (rng m f)[j]? = some (bA (f j)) := by simp [rng, h]
theorem aLv {m j : Nat} {f : Nat → Bool} (h : j < m) : (rng m f).set j (bA true) = rng m (fun x => f x || decide (x = j)) := by
 unfold rng
 apply List.ext_getElem
 · simp
 · intro i h1 h2
   rw [List.getElem_set]
   split
   · rename_i e; subst e; simp
   · rename_i e; simp [Ne.symm e]
theorem aRm {m : Nat} : List.replicate m (AV.v (.bool false)) = rng m (fun _ => false) := by
 unfold rng
 apply List.ext_getElem
 · simp
 · intro i h1 h2; simp [bA]
theorem aLu {m : Nat} {f g : Nat → Bool} (h : ∀ j, j < m → f j = g j) : rng m f = rng m g := by
 unfold rng
 congr 1
 apply List.map_congr_left
 intro j hj; exact h j (List.mem_range.1 hj)
open Classical in
noncomputable def ja (cs : List Cmt) (b a : Nat) : Bool := decide (Anc cs b a)
theorem aBa {cs : List Cmt} {b a : Nat} : ja cs b a = true ↔ Anc cs b a := by simp [ja]
def Stg (cs : List Cmt) (b i : Nat) (f : Nat → Bool) : Prop := ∀ j, f j = true ↔ (j = b ∨ ∃ q, i < q ∧ Anc cs b q ∧ Par cs q j)
theorem Stg.at {cs : List Cmt} (hb : uO cs = true) {b i : Nat} {f : Nat → Bool} (h : Stg cs b i f) : f i = true ↔ Anc cs b i := by
 rw [h i, Anc.iff]
 constructor
 · rintro (h | ⟨q, _, h1, h2⟩)
   · exact .inl h
   · exact .inr ⟨q, h1, h2⟩
 · rintro (h | ⟨q, h1, h2⟩)
   · exact .inl h
   · exact .inr ⟨q, by have := h2.lt hb; omega, h1, h2⟩
theorem Stg.end {cs : List Cmt} (hb : uO cs = true) {b : Nat} {f : Nat → Bool} (h : Stg cs b 0 f) : ∀ j, f j = ja cs b j := fun j => by
 have : f j = true ↔ ja cs b j = true := by
  rw [h j, aBa, Anc.iff]
  constructor
  · rintro (h | ⟨q, _, h1, h2⟩)
    · exact .inl h
    · exact .inr ⟨q, h1, h2⟩
  · rintro (h | ⟨q, h1, h2⟩)
    · exact .inl h
    · exact .inr ⟨q, by have := h2.lt hb; omega, h1, h2⟩
 cases h1 : f j <;> cases h2 : ja cs b j <;> simp_all
theorem Stg.skip {cs : List Cmt} (hb : uO cs = true) {b i : Nat} {f : Nat → Bool} (h : Stg cs b (i + 1) f) (hn : ¬ f (i + 1) = true) : Stg cs b i f := fun j => by
 rw [h j]
 constructor
 · rintro (h | ⟨q, h0, h1, h2⟩)
   · exact .inl h
   · exact .inr ⟨q, by omega, h1, h2⟩
 · rintro (h' | ⟨q, h0, h1, h2⟩)
   · exact .inl h'
   · rcases Nat.lt_or_ge (i + 1) q with h3 | h3
     · exact .inr ⟨q, h3, h1, h2⟩
     · have : q = i + 1 := by omega
       subst this
       exact absurd ((h.at hb).2 h1) hn
def Stp (cs : List Cmt) (b i : Nat) (ps : List Int) (k : Nat) (f : Nat → Bool) : Prop := ∀ j, f j = true ↔ (j = b ∨ (∃ q, i < q ∧ Anc cs b q ∧ Par cs q j) ∨ ∃ x ∈ ps.take k, x = (j : Int))
theorem Stp.zero {cs : List Cmt} {b i : Nat} {ps : List Int} {f : Nat → Bool} (h : Stg cs b i f) : Stp cs b i ps 0 f := fun j => by rw [h j]; simp
theorem Stp.next {cs : List Cmt} {b i k p : Nat} {ps : List Int} {f : Nat → Bool} (h : Stp cs b i ps k f) (hk : k < ps.length) (hp : ps[k] = (p : Int)) : Stp cs b i ps (k + 1) (fun x => f x || decide (x = p)) := fun j => by
 simp only [Bool.or_eq_true, decide_eq_true_eq]
 rw [h j, List.take_succ_eq_append_getElem hk]
 simp only [List.mem_append, List.mem_singleton]
 constructor
 · rintro ((h | h | ⟨x, h, e⟩) | h)
   · exact .inl h
   · exact .inr (.inl h)
   · exact .inr (.inr ⟨x, .inl h, e⟩)
   · exact .inr (.inr ⟨_, .inr rfl, by rw [hp, h]⟩)
 · rintro (h | h | ⟨x, h | h, e⟩)
   · exact .inl (.inl h)
   · exact .inl (.inr (.inl h))
   · exact .inl (.inr (.inr ⟨x, h, e⟩))
   · refine .inr ?_
     rw [h, hp] at e; omega
theorem Stp.done {cs : List Cmt} {b i : Nat} {f : Nat → Bool} (hi : i < cs.length) (h : Stp cs b (i + 1) (cs[i]).1 (cs[i]).1.length f) (ha : Anc cs b (i + 1)) : Stg cs b i f := fun j => by
 rw [h j, List.take_length]
 constructor
 · rintro (h | ⟨q, h0, h1, h2⟩ | ⟨x, h, e⟩)
   · exact .inl h
   · exact .inr ⟨q, by omega, h1, h2⟩
   · exact .inr ⟨i + 1, by omega, ha, ⟨by simpa using hi, by omega, by subst e; simpa using h⟩⟩
 · rintro (h' | ⟨q, h0, h1, h2⟩)
   · exact .inl h'
   · rcases Nat.lt_or_ge (i + 1) q with h3 | h3
     · exact .inr (.inl ⟨q, h3, h1, h2⟩)
     · have : q = i + 1 := by omega
       subst this
       obtain ⟨_, _, h4⟩ := h2
       exact .inr (.inr ⟨_, by simpa using h4, rfl⟩)
attribute [local irreducible] xI xO xQ xX yG Pre ACG
theorem aFH {cs : List Cmt} {b : Nat} (hb : uO cs = true) (h1 : 1 ≤ b) (h2 : b ≤ cs.length) : AC Tryz.prog 104 [.lst 2 (cs.map xS), .v (.int .i64 (b : Int))] ⟨.own 0, [⟨4, 1, rng (cs.length + 1) (ja cs b)⟩]⟩ := by
 obtain ⟨hl1, hl2⟩ := aMG hb
 have hrow : (List.replicate (cs.length + 1) (AV.v (.bool false))).set b (bA true) = rng (cs.length + 1) (fun x => decide (x = b)) := by
  rw [aRm, aLv (by omega)]; exact aLu (fun j _ => by simp)
 have hst0 : Stg cs b b (fun x => decide (x = b)) := fun j => by
  simp only [decide_eq_true_eq]
  constructor
  · exact .inl
  · rintro (h | ⟨q, h3, h4, _⟩)
    · exact h
    · have := h4.le hb h1; omega
 have hq0 : (List.replicate (cs.length + 1) (AV.v (.bool false)))[b]? = some (AV.v (.bool false)) := by
  rw [List.getElem?_replicate, if_pos (by omega)]
 refine qrf Tryz.func104 Tryz.ntmps104 Tryz.results104 ?_; conv => whnf
 repeat (first | (refine qz ?_; conv => whnf) | (refine qr (aAP (n := cs.length + 1) (by omega) (by omega) rfl rfl rfl rfl) ?_; conv => whnf) | (refine qp (zX (j := b) (by simp; omega) rfl rfl rfl rfl rfl) ?_; conv => whnf) | (refine qr (y8 hq0 rfl rfl rfl rfl rfl rfl) ?_; conv => whnf))
 refine xZ (ι := { p : Nat × (Nat → Bool) // p.1 ≤ cs.length ∧ Stg cs b p.1 p.2 }) (fun p => ⟨[(0, .lst 2 (cs.map xS)), (5, .own 12), (6, .v (.int .i64 (p.1.1 : Int)))], [(12, ⟨4, 1, rng (cs.length + 1) p.1.2⟩)]⟩) (fun p => p.1.1) ⟨(b, fun x => decide (x = b)), h2, hst0⟩ ⟨⟨congrArg (fun x => some (OB.mk _ _ x)) hrow, trivial⟩, .inl ⟨rfl, rfl⟩, .inl ⟨rfl, rfl⟩, .inl ⟨rfl, rfl⟩, trivial⟩ ?_
 rintro ⟨⟨k, f⟩, hk, hst⟩
 dsimp only at hk hst ⊢
 conv => whnf
 cases k with
 | zero =>
  repeat ((refine qz ?_; conv => whnf))
  exact aET rfl (congrArg (fun x => some (OB.mk _ _ x)) (aLu fun j _ => hst.end hb j))
 | succ i =>
  have hi : i < cs.length := hk
  have hlt : i + 1 < cs.length + 1 := by omega
  cases hf : f (i + 1) with
  | false =>
   have hget : (rng (cs.length + 1) f)[i + 1]? = some (AV.v (.bool false)) := by rw [aAj hlt, hf]; rfl
   repeat (first | (refine qp (xC (yU (c := (i : Int)) (by omega) (by omega) (by omega)) rfl rfl rfl) ?_; conv => whnf) | (refine qz ?_; conv => whnf) | (refine qP (zX (j := i + 1) (by rw [aB4]; exact hlt) rfl rfl rfl rfl rfl) ?_) | (refine qp (zO rfl rfl hget rfl rfl rfl rfl) ?_; conv => whnf))
   exact ⟨⟨(i, f), by omega, hst.skip hb (by simp [hf])⟩, by exact qle, by simp⟩
  | true =>
   have ha : Anc cs b (i + 1) := (hst.at hb).1 hf
   have hget : (rng (cs.length + 1) f)[i + 1]? = some (AV.v (.bool true)) := by rw [aAj hlt, hf]; rfl
   repeat (first | (refine qp (xC (yU (c := (i : Int)) (by omega) (by omega) (by omega)) rfl rfl rfl) ?_; conv => whnf) | (refine qz ?_; conv => whnf) | (refine qP (zX (j := i + 1) (by rw [aB4]; exact hlt) rfl rfl rfl rfl rfl) ?_) | (refine qp (zO rfl rfl hget rfl rfl rfl rfl) ?_; conv => whnf))
   have hpar := aHo hb hi
   refine xZ (ι := { p : Nat × (Nat → Bool) // p.1 ≤ (cs[i]).1.length ∧ Stp cs b (i + 1) (cs[i]).1 p.1 p.2 }) (fun p => ⟨[(0, .lst 2 (cs.map xS)), (5, .own 12), (6, .v (.int .i64 ((i + 1 : Nat) : Int))), (7, .v (.int .i64 (p.1.1 : Int)))], [(12, ⟨4, 1, rng (cs.length + 1) p.1.2⟩)]⟩) (fun p => (cs[i]).1.length - p.1.1) ⟨(0, f), Nat.zero_le _, Stp.zero hst⟩ (by exact qle) ?_
   rintro ⟨⟨kk, g⟩, hkk, hsp⟩
   dsimp only at hkk hsp ⊢
   conv => whnf
   have hl3 : (cs[i]).1.length ≤ 2 := hpar.1
   by_cases hlk : kk < (cs[i]).1.length
   · obtain ⟨_, g1, g2, _⟩ := hpar.2.2 kk hlk
     obtain ⟨p, hp⟩ : ∃ p : Nat, (cs[i]).1[kk] = (p : Int) := ⟨((cs[i]).1[kk]).toNat, by omega⟩
     have hpl : p < cs.length + 1 := by omega
     repeat (first | (refine qp (xC (yU (c := (i : Int)) (by omega) (by omega) (by omega)) rfl rfl rfl) ?_; conv => whnf) | (refine qz ?_; conv => whnf) | (refine qp (zX (j := p) (by rw [aB4]; exact hpl) rfl rfl (by show AV.v (.int .i64 (cs[i]).1[kk]) = _; rw [hp]) rfl rfl) ?_; conv => whnf) | (refine qr (y8 (aAj hpl) rfl rfl rfl rfl rfl rfl) ?_; conv => whnf))
     exact ⟨⟨(kk + 1, fun x => g x || decide (x = p)), hlk, hsp.next hlk hp⟩, ⟨⟨congrArg (fun x => some (OB.mk _ _ x)) (aLv hpl), trivial⟩, .inl ⟨rfl, rfl⟩, .inl ⟨rfl, rfl⟩, .inl ⟨rfl, rfl⟩, .inl ⟨rfl, rfl⟩, trivial⟩, by simp; omega⟩
   · have hke : kk = (cs[i]).1.length := by omega
     rw [hke] at hsp
     repeat ((first | refine qp (xC (yU (c := (i : Int)) (by omega) (by omega) (by omega)) rfl rfl rfl) ?_ | refine qz ?_); conv => whnf)
     exact ⟨⟨(i, g), by omega, hsp.done hi ha⟩, by exact qle, by simp⟩
end Go.Proofs.YtfomjajdfaoogaaGreatDoor.AM
namespace Go.Proofs.YtfomjajdfaoogaaGreatDoor.AM
open Go Go.RowKit
def mark (f : Nat → Bool) (i : Nat) : Nat → Bool := fun x => f x || decide (x = i)
attribute [local irreducible] xI xO xQ xX yG Pre ACG
end Go.Proofs.YtfomjajdfaoogaaGreatDoor.AM
namespace Go.Proofs.YtfomjajdfaoogaaGreatDoor.AM
open Go Go.RowKit
theorem Anc.trans {cs : List Cmt} {a b c : Nat} (h : Anc cs a b) (k : Anc cs b c) : Anc cs a c := by
 induction k with
 | refl => exact h
 | up _ hp ih => exact .up ih hp
theorem Par.anc {cs : List Cmt} {a b : Nat} (h : Par cs a b) : Anc cs a b := .up .refl h
section
variable {s : St} {ty : TypeId} {pos : String} {after : Array Edge} {g : Option (Nat × Bool)} {f : Nat → Bool}
end
attribute [local irreducible] rng
attribute [local irreducible] xI xO xQ xX yG Pre ACG
end Go.Proofs.YtfomjajdfaoogaaGreatDoor.AM
namespace Go.Proofs.YtfomjajdfaoogaaGreatDoor.AM
open Go Go.RowKit
theorem aLP {cs : List Cmt} (hb : uO cs = true) : ∀ (n b : Nat), b ≤ n → 1 ≤ b → b ≤ cs.length → Anc cs b 1 := by
 intro n
 induction n with
 | zero => intro b h1 h2; omega
 | succ n ih =>
  intro b h1 h2 h3
  by_cases hb1 : b = 1
  · subst hb1; exact .refl
  · have hi : b - 1 < cs.length := by omega
    obtain ⟨_, q2, q3⟩ := aHo hb hi
    have hl : 0 < (cs[b - 1]).1.length := by
     rcases Nat.eq_zero_or_pos (cs[b - 1]).1.length with h | h
     · have := q2.1 h; omega
     · exact h
    obtain ⟨_, g1, g2, _⟩ := q3 0 hl
    have hpar : Par cs b ((cs[b - 1]).1[0]).toNat := ⟨hi, h2, by rw [Int.toNat_of_nonneg (by omega)]; exact List.getElem_mem hl⟩
    obtain ⟨k1, k2, _⟩ := hpar.lt hb
    exact hpar.anc.trans (ih _ (by omega) k1 (by omega))
def bsF (F : Nat → Bool) : Nat → Nat
 | 0 => 0
 | k + 1 => if F (k + 1) = true then k + 1 else bsF F k
theorem aNa {F : Nat → Bool} : ∀ k, bsF F k ≤ k
 | 0 => Nat.le_refl _
 | k + 1 => by unfold bsF; split; exact Nat.le_refl _; exact Nat.le_succ_of_le (aNa k)
noncomputable def aBk (cs : List Cmt) (a b : Nat) : Nat → Bool := fun k => ja cs a k && ja cs b k
noncomputable def kX (cs : List Cmt) (a b : Nat) : Nat := bsF (aBk cs a b) (min a b)
theorem aJ7 {cs : List Cmt} (hb : uO cs = true) {a b : Nat} (h1 : 1 ≤ a) (h2 : a ≤ cs.length) (h3 : 1 ≤ b) (h4 : b ≤ cs.length) : aBk cs a b 1 = true := by
 unfold aBk
 rw [aBa.2 (aLP hb a a (Nat.le_refl _) h1 h2), aBa.2 (aLP hb b b (Nat.le_refl _) h3 h4)]; rfl
theorem aQ0 {P : Program} {Θ : Tab} {s : St} {d : Option Tmp} {ty : TypeId} {pos : String} {after : Array Edge} {g : Option (Nat × Bool)} {x y : Operand} {ts : Array TypeId} {a b : Nat} (hx : s.ev x = .v (.int .i64 (a : Int))) (hy : s.ev y = .v (.int .i64 (b : Int))) : Pre P Θ ⟨d, .call ⟨.builtin .min, #[x, y], ts⟩, ty, pos, after, g⟩ s ⟨.v (.int .i64 ((min a b : Nat) : Int)), none⟩ := by
 refine ⟨[.int .i64 (a : Int), .int .i64 (b : Int)], .int .i64 ((min a b : Nat) : Int), by simp [hx, hy, y9], fun w => ?_, rfl, rfl⟩
 rcases Nat.lt_or_ge b a with h | h
 · rw [Nat.min_eq_right (by omega)]
   have h' : (b : Int) < a := by omega
   simp [builtin, Builtin.min_, Builtin.min2, Result.andThen, h', h]
 · rw [Nat.min_eq_left h]
   have h' : ¬ (b : Int) < a := by omega
   simp [builtin, Builtin.min_, Builtin.min2, Result.andThen, h', Nat.not_lt.2 h]
attribute [local irreducible] rng
attribute [local irreducible] xI xO xQ xX yG Pre ACG
theorem aGC {cs : List Cmt} {a b : Nat} (hb : uO cs = true) (h1 : 1 ≤ a) (h2 : a ≤ cs.length) (h3 : 1 ≤ b) (h4 : b ≤ cs.length) : AC Tryz.prog 64 [.lst 2 (cs.map xS), .v (.int .i64 (a : Int)), .v (.int .i64 (b : Int))] ⟨.v (.int .i64 (kX cs a b : Int)), []⟩ := by
 obtain ⟨hl1, hl2⟩ := aMG hb
 have r1 := aFH hb h1 h2
 have r2 := aFH hb h3 h4
 have hmn : min a b ≤ a := Nat.min_le_left _ _
 have hm1 : 1 ≤ min a b := by omega
 refine qrf Tryz.func64 Tryz.ntmps64 Tryz.results64 ?_; conv => whnf
 repeat ((first | refine qz ?_ | refine qdr ?_ | refine qc (r1) ?_ | refine qc (r2) ?_ | refine qp (aQ0 rfl rfl) ?_); conv => whnf)
 refine xZ (ι := { k : Nat // 1 ≤ k ∧ k ≤ min a b ∧ bsF (aBk cs a b) k = kX cs a b }) (fun k => ⟨[(7, .own 13), (8, .own 16), (9, .v (.int .i64 (k.1 : Int)))], [(13, ⟨4, 1, rng (cs.length + 1) (ja cs a)⟩), (16, ⟨4, 1, rng (cs.length + 1) (ja cs b)⟩)]⟩) (fun k => k.1) ⟨min a b, hm1, Nat.le_refl _, rfl⟩ (by exact qle) ?_
 rintro ⟨k, k1, k2, k3⟩
 dsimp only at k1 k2 k3 ⊢
 obtain ⟨k, rfl⟩ : ∃ k', k = k' + 1 := ⟨k - 1, by omega⟩
 conv => whnf
 have hlt : k + 1 < cs.length + 1 := by omega
 have nxt : aBk cs a b (k + 1) = false → 1 ≤ k ∧ bsF (aBk cs a b) k = kX cs a b := fun h => by
  refine ⟨?_, ?_⟩
  · rcases Nat.eq_zero_or_pos k with h0 | h0
    · subst h0; rw [aJ7 hb h1 h2 h3 h4] at h; cases h
    · exact h0
  · rw [← k3]; simp [bsF, h]
 cases ha : ja cs a (k + 1) with
 | false =>
  have hget : (rng (cs.length + 1) (ja cs a))[k + 1]? = some (AV.v (.bool false)) := by rw [aAj hlt, ha]; rfl
  obtain ⟨n1, n2⟩ := nxt (by unfold aBk; rw [ha]; rfl)
  repeat (first | (refine qp (xC (yU (c := (k : Int)) (by omega) (by omega) (by omega)) rfl rfl rfl) ?_; conv => whnf) | (refine qz ?_; conv => whnf) | (refine qdr ?_; conv => whnf) | (refine qP (zX (j := k + 1) (by rw [aB4]; exact hlt) rfl rfl rfl rfl rfl) ?_) | (refine qp (zO rfl rfl hget rfl rfl rfl rfl) ?_; conv => whnf))
  exact ⟨⟨k, n1, by omega, n2⟩, by exact qle, by simp⟩
 | true =>
  have hget : (rng (cs.length + 1) (ja cs a))[k + 1]? = some (AV.v (.bool true)) := by rw [aAj hlt, ha]; rfl
  cases hbk : ja cs b (k + 1) with
  | false =>
   have hget2 : (rng (cs.length + 1) (ja cs b))[k + 1]? = some (AV.v (.bool false)) := by rw [aAj hlt, hbk]; rfl
   obtain ⟨n1, n2⟩ := nxt (by unfold aBk; rw [ha, hbk]; rfl)
   repeat (first | (refine qp (xC (yU (c := (k : Int)) (by omega) (by omega) (by omega)) rfl rfl rfl) ?_; conv => whnf) | (refine qz ?_; conv => whnf) | (refine qdr ?_; conv => whnf) | (refine qP (zX (j := k + 1) (by rw [aB4]; exact hlt) rfl rfl rfl rfl rfl) ?_) | (refine qp (zO rfl rfl hget rfl rfl rfl rfl) ?_; conv => whnf) | (refine qp (zO rfl rfl hget2 rfl rfl rfl rfl) ?_; conv => whnf))
   exact ⟨⟨k, n1, by omega, n2⟩, by exact qle, by simp⟩
  | true =>
   have hget2 : (rng (cs.length + 1) (ja cs b))[k + 1]? = some (AV.v (.bool true)) := by rw [aAj hlt, hbk]; rfl
   have hf : kX cs a b = k + 1 := by rw [← k3]; simp [bsF, aBk, ha, hbk]
   rw [hf]
   repeat (first | (refine qz ?_; conv => whnf) | (refine qdr ?_; conv => whnf) | (refine qP (zX (j := k + 1) (by rw [aB4]; exact hlt) rfl rfl rfl rfl rfl) ?_) | (refine qp (zO rfl rfl hget rfl rfl rfl rfl) ?_; conv => whnf) | (refine qp (zO rfl rfl hget2 rfl rfl rfl rfl) ?_; conv => whnf))
   exact xD rfl trivial
end Go.Proofs.YtfomjajdfaoogaaGreatDoor.AM
namespace Go.Proofs.YtfomjajdfaoogaaGreatDoor.AM
open Go Go.RowKit
section
variable {P : Program} {Θ : Tab} {s : St} {ty : TypeId} {pos : String} {after : Array Edge} {g : Option (Nat × Bool)}
theorem aBE {d : Option Tmp} {x : Operand} {t : TypeId} {l m : Nat} {ob : OB} (hx : s.ev x = .own l) (ho : s.hp l = some ob) (hm : ob.xs.length = m) (hok : ∃ e sz b z, Θ.look t = .slice e sz b z) : Pre P Θ ⟨d, .call ⟨.builtin .len, #[x], #[t]⟩, ty, pos, after, g⟩ s ⟨.v (.int .i64 (m : Int)), none⟩ :=
 aAp hx (by simp [aAK, ho, hm]) hok
theorem aLh {a t l l1 l2 : Nat} {ob o1 o2 : OB} {t' : Option Nat} {Θ : Tab} (h1 : s.sl a = .optr l 0 [] 0) (ho : s.hp l = some ob) (hop : ob.e.open_ = false) (hoe : yX ob.e ob.xs 0 = some (.o t' 0 (.mix [.own l1, .own l2]))) (ho1 : s.hp l1 = some o1) (ho2 : s.hp l2 = some o2) (hn : Nat.beq l1 l2 = false) (hk : ((Θ.look t).known && (Θ.look t).isAgg && Nat.beq 2 (Θ.look t).size) = true) (hok1 : okL l1 = true := by rfl) (hok2 : okL l2 = true := by rfl) (hs1 : o1.e.shut = true := by rfl) (hs2 : o2.e.shut = true := by rfl) :
 vg Θ [.cell a t] ⟨.mix [.own 0, .own 1], [o1, o2]⟩ .ret s := by
 have hr : rvA s (.cell a t) = .mix [.own l1, .own l2] := by
  simp only [rvA, h1, ho, hop, hoe, cond_false]; rfl
 simp only [Bool.and_eq_true] at hk
 have hne : l1 ≠ l2 := fun e => by rw [e] at hn; simp at hn
 refine ⟨trivial, [l1, l2], by simp [hne], ⟨⟨ho1, hok1, hs1⟩, ⟨ho2, hok2, hs2⟩, trivial⟩, ⟨⟨hk.1.1, by rw [hr]; exact hk.1.2.symm, by rw [hr]; exact Nat.eq_of_beq_eq_true hk.2, .inl ⟨l, ob, _, h1, ho, .inr ⟨hop, _, _, hoe, rfl⟩⟩⟩, trivial⟩, trivial, ⟨.inl ⟨?_, rfl⟩, trivial⟩⟩
 rw [hr]; rfl
end
theorem aEj {l : List Int} : ∀ x ∈ l.map yo, zm x = true := fun x hx => by obtain ⟨_, _, rfl⟩ := List.mem_map.1 hx; rfl
theorem aCs {l : List Ent} : ∀ x ∈ l.map yB, zm x = true := fun x hx => by obtain ⟨_, _, rfl⟩ := List.mem_map.1 hx; rfl
attribute [local irreducible] xI xO xQ xX yG Pre ACG
attribute [local irreducible] rng
end Go.Proofs.YtfomjajdfaoogaaGreatDoor.AM
namespace Go.Proofs.YtfomjajdfaoogaaGreatDoor.AM
open Go Go.RowKit
theorem aB6 {cs : List Cmt} (hb : uO cs = true) {i : Nat} (h : i < cs.length) : yV (cs[i]).2 = true := by
 unfold uO at hb
 simp only [Bool.and_eq_true] at hb
 have := aBl hb.2 i h
 unfold u6 at this
 simp only [Bool.and_eq_true] at this
 exact this.1
theorem aN9 {F : Nat → Bool} (h : F 1 = true) : ∀ k, 1 ≤ k → 1 ≤ bsF F k
 | 0, h0 => by omega
 | 1, _ => by simp [bsF, h]
 | k + 2, _ => by
  unfold bsF
  split
  · omega
  · exact aN9 h (k + 1) (by omega)
def mpN (cs : List Cmt) (k : Nat) : List Ent := match cs[k - 1]? with
 | some c => c.2
 | none => []
theorem aKA {cs : List Cmt} {k : Nat} (h : k - 1 < cs.length) : mpN cs k = (cs[k - 1]).2 := by unfold mpN; rw [List.getElem?_eq_getElem h]
theorem aJ1 {cs : List Cmt} (hb : uO cs = true) {a b : Nat} (h1 : 1 ≤ a) (h2 : a ≤ cs.length) (h3 : 1 ≤ b) (h4 : b ≤ cs.length) : 1 ≤ kX cs a b ∧ kX cs a b ≤ a ∧ kX cs a b ≤ b := by
 have q1 := aN9 (aJ7 hb h1 h2 h3 h4) (min a b) (by omega)
 have q2 := aNa (F := aBk cs a b) (min a b)
 unfold kX
 omega
theorem aKB {cs : List Cmt} (hb : uO cs = true) (k : Nat) : (mpN cs k).length ≤ 12 := by
 unfold mpN
 split
 · rename_i c h
   obtain ⟨hi, rfl⟩ := List.getElem?_eq_some_iff.1 h
   exact AM.mapOK_le (aB6 hb hi)
 · simp
attribute [local irreducible] xI xO xQ xX yG Pre ACG
theorem aDX {d k : Nat} {obs : List OB} : ∀ l ∈ (uY d k obs).map (·.1), yF (uY d k obs) l := by
 have key : ∀ (obs : List OB) (k : Nat), ∀ l ∈ (uY d k obs).map (·.1), ∃ j, l = d + 1000 * j ∧ k ≤ j ∧ j < k + obs.length := by
  intro obs
  induction obs with
  | nil => intro k l hl; simp [uY] at hl
  | cons ob r ih =>
   intro k l hl
   simp only [uY, List.map_cons, List.mem_cons] at hl
   rcases hl with rfl | hl
   · exact ⟨k, rfl, Nat.le_refl _, by simp⟩
   · obtain ⟨j, h1, h2, h3⟩ := ih (k + 1) l hl
     exact ⟨j, h1, by omega, by simp; omega⟩
 intro l hl
 obtain ⟨j, rfl, h2, h3⟩ := key obs k l hl
 exact aCX obs k j h2 h3
theorem vz {l : Nat} {ob : OB} : ∀ m ∈ ([(l, some ob)] : List (Nat × Option OB)).map (·.1), yF [(l, some ob)] m := fun m hm => by
 simp at hm; subst hm; exact in1 _ _
theorem aNT {c : Cmt} (hm : c.1.length ≤ 1048576) (hm2 : c.2.length ≤ 1048576) : AC Tryz.prog 56 [xS c] ⟨.mix [.own 0, .own 1], [⟨3, 1, c.1.map yo⟩, ⟨74, 2, c.2.map yB⟩]⟩ := by
 refine qrf Tryz.func56 Tryz.ntmps56 Tryz.results56 ?_; conv => whnf
 refine .inr ⟨by kernel_rfl, vv (by kernel_rfl), ?_⟩
 refine xU (aDf rfl rfl) vz rfl rfl (by kernel_rfl) ?_
 refine xJ (uG rfl rfl rfl) rfl rfl rfl (.inl rfl) (by kernel_rfl) ?_
 refine xJ (zO rfl rfl rfl rfl rfl rfl rfl) rfl rfl rfl (.inr rfl) (by kernel_rfl) ?_
 refine xU (aDe rfl rfl rfl rfl (by simp; omega) rfl) vz rfl rfl (by kernel_rfl) ?_
 refine xU (aDf rfl rfl) vz rfl rfl (by kernel_rfl) ?_
 refine xJ (uG rfl rfl rfl) rfl rfl rfl (.inl rfl) (by kernel_rfl) ?_
 refine xJ (zO rfl rfl rfl rfl rfl rfl rfl) rfl rfl rfl (.inr rfl) (by kernel_rfl) ?_
 refine xU (aDe rfl rfl rfl rfl (by simp; omega) rfl) vz rfl rfl (by kernel_rfl) ?_
 refine qb (uo rfl ⟨⟨_, _, rfl, rfl, rfl⟩, ⟨_, _, rfl, rfl, rfl⟩, trivial⟩ rfl) rfl rfl (by kernel_rfl) ?_
 refine qb (yJ rfl rfl rfl rfl rfl rfl) rfl rfl (by kernel_rfl) ?_
 refine jo ?_
 conv => whnf
 exact aLh rfl rfl rfl rfl rfl rfl rfl rfl
end Go.Proofs.YtfomjajdfaoogaaGreatDoor.AM
namespace Go.Proofs.YtfomjajdfaoogaaGreatDoor.AM
open Go Go.RowKit
section
variable {P : Program} {Θ : Tab} {s : St} {ty : TypeId} {pos : String} {after : Array Edge} {g : Option (Nat × Bool)}
theorem aTD {d : Nat} {t : TypeId} {el sz b : Nat} {z : AV} (hf : s.hp (d + 1) = none) (ht : Θ.look t = .slice el sz b z) (hok : okL (d + 1) = true := by rfl) :
 Pre P Θ ⟨some d, .buildSlice t 0 #[], ty, pos, after, g⟩ s ⟨.own (d + 1), some fun s' => s'.set (d + 1) (some ⟨.s el, sz, []⟩)⟩ :=
 ⟨d, el, sz, b, z, rfl, hf, hok, ht, by omega, .inl ⟨trivial, fun x hx => by simp at hx, by simp [xq, xY], by simp [xq, xY, qW, yT]⟩⟩
theorem aKI {d : Nat} {t : TypeId} {x : Operand} {el sz b : Nat} {z y : AV} (hf : s.hp (d + 1) = none) (ht : Θ.look t = .slice el sz b z) (hx : toO (s.ev x) = some y) (hz : Nat.beq (asz y) sz = true) (hsz : Nat.ble sz 65536 = true) (hc : cOK x = true := by rfl) (hok : okL (d + 1) = true := by rfl) :
 Pre P Θ ⟨some d, .buildSlice t 1 #[(0, x)], ty, pos, after, g⟩ s ⟨.own (d + 1), some fun s' => s'.set (d + 1) (some ⟨.o (some el) 0 y, sz, [y]⟩)⟩ :=
 ⟨d, el, sz, b, z, rfl, hf, hok, ht, by rw [Nat.one_mul]; exact Nat.le_of_ble_eq_true hsz, .inr ⟨x, y, rfl, rfl, jG hc, hx, Nat.eq_of_beq_eq_true hz, rfl⟩⟩
end
attribute [local irreducible] xI xO xQ xX yG Pre ACG
theorem aGD {l : List Cmt} (hm : l.length ≤ 1048576) (hc : ∀ c ∈ l, c.1.length ≤ 1048576 ∧ c.2.length ≤ 1048576) : AC Tryz.prog 26 [.lst 2 (l.map xS)] ⟨.own 0, [⟨.d 33, 2, l.map xS⟩]⟩ := by
 refine qO Tryz.func26 Tryz.ntmps26 Tryz.results26 ?_
 repeat (first | (refine aTA rfl rfl (aTD rfl rfl) (fun e => by cases e) (Gh.s2d 6 rfl (by simp) (Gh.done ?_))) | refine qy ?_)
 refine xZ (ι := { k : Nat // k ≤ l.length }) (fun k => ⟨[(0, .lst 2 (l.map xS)), (3, .own 6), (4, .v (.int .i64 (k.1 : Int)))], [(6, ⟨.d 33, 2, (l.take k.1).map xS⟩)]⟩) (fun k => l.length - k.1) ⟨0, Nat.zero_le _⟩ (by exact qle) ?_
 rintro ⟨k, hk⟩
 dsimp only
 conv => whnf
 by_cases hlt : k < l.length
 · obtain ⟨q1, q2⟩ := hc _ (List.getElem_mem hlt)
   have hsn : (l.take k).map xS ++ [xS l[k]] = (l.take (k + 1)).map xS := by rw [List.take_succ_eq_append_getElem hlt, List.map_append]; rfl
   repeat ((first | refine qz ?_ | refine qc (aNT q1 q2) ?_); conv => whnf)
   refine jv (aKI rfl rfl rfl rfl rfl) rfl rfl (fun e => by cases e) (Gh.s2d 18 rfl aEj (Gh.s2d 1018 rfl aCs (Gh.fold 19 18 [0] rfl rfl rfl rfl rfl rfl (Gh.fold 19 1018 [1] rfl rfl rfl rfl rfl rfl (Gh.shut 19 (z := .agg [.lst 1 [], .lst 2 []]) (y' := xS l[k]) rfl rfl (Gh.done ?_))))))
   conv => whnf
   refine qr (aTC (xs := l.take k) (ys := [l[k]]) (f := xS) (by simp) (by simp; omega) rfl rfl rfl rfl rfl rfl rfl (.inr (.inl rfl))) ?_
   conv => whnf
   repeat ((refine qz ?_; conv => whnf))
   exact ⟨⟨k + 1, hlt⟩, ⟨⟨by show some (OB.mk _ _ _) = _; rw [List.map_append]; exact congrArg (fun x => some (OB.mk _ _ x)) hsn, trivial⟩, .inl ⟨rfl, rfl⟩, .inl ⟨rfl, rfl⟩, .inl ⟨rfl, rfl⟩, trivial⟩, by simp; omega⟩
 · have hkk : k = l.length := by omega
   subst hkk
   repeat (first | (refine qz ?_; conv => whnf) | refine jd ?_ | refine aQR ?_ | refine qP (wT (by conv => lhs; whnf)) ?_ | refine qP (aH6 (by conv => lhs; whnf)) ?_ | refine aMm (aKP ?_) | refine aQS ?_)
   exact aET rfl (by show some (OB.mk _ _ _) = _; rw [List.take_length])
end Go.Proofs.YtfomjajdfaoogaaGreatDoor.AM
namespace Go.Proofs.YtfomjajdfaoogaaGreatDoor.AM
open Go Go.RowKit
section
variable {P : Program} {Θ : Tab} {s : St} {ty : TypeId} {pos : String} {after : Array Edge} {g : Option (Nat × Bool)}
theorem aRv {d : Option Tmp} {x : Operand} {t sz : Nat} {xs : List AV} (hx : s.ev x = .lst sz xs) (hok : ∃ e sz b z, Θ.look t = .slice e sz b z) : Sft P Θ ⟨d, .call ⟨.builtin .len, #[x], #[t]⟩, ty, pos, after, g⟩ s (.v (.int .i64 (xs.length : Int))) [] [] := by
 refine ⟨fun s' h1 h2 => ⟨⟨.v (.int .i64 (xs.length : Int)), none⟩, ?_, fun K hK => .done hK⟩, fun l ob h => by simp [yI] at h, fun l hl => (by cases hl), fun l hl => by simp [AV.names] at hl, fun l hl => (zl hl).elim, fun l ob hl => (zl hl).elim⟩
 have e1 : s'.ev x = .lst sz xs := (h1 _ (by simp [Op.operands, Call.operands])).trans hx
 exact aAp e1 rfl hok
theorem aOr {d : Option Tmp} {t : Nat} {y : AV} (hx : s.sl t = y) : Sft P Θ ⟨d, .assign (.tmp t), ty, pos, after, g⟩ s y [] [] := by
 refine ⟨fun s' h1 h2 => ⟨⟨y, none⟩, aH6 ((h1 (.tmp t) (by simp [Op.operands])).trans hx), fun K hK => .done hK⟩, fun l ob h => by simp [yI] at h, fun l hl => (by cases hl), fun l hl => .inr ⟨t, y7 (by simp [Op.operands]), by rw [hx]; exact hl⟩, fun l hl => (zl hl).elim, fun l ob hl => (zl hl).elim⟩
end
theorem in2 {a b : Nat} {x y : Option OB} : ∀ l ∈ ([(a, x), (b, y)] : List (Nat × Option OB)).map (·.1), yF [(a, x), (b, y)] l := by
 intro l hl
 simp only [List.map_cons, List.map_nil, List.mem_cons, List.not_mem_nil, or_false] at hl
 unfold yF
 simp only [yI]
 cases e1 : Nat.beq l a with
 | true => exact ⟨_, rfl⟩
 | false =>
  have : l = b := by
   rcases hl with rfl | rfl
   · rw [Nat.beq_refl] at e1; cases e1
   · rfl
  subst this
  rw [Nat.beq_refl]; exact ⟨_, rfl⟩
attribute [local irreducible] xI xO xQ xX yG Pre ACG
end Go.Proofs.YtfomjajdfaoogaaGreatDoor.AM
