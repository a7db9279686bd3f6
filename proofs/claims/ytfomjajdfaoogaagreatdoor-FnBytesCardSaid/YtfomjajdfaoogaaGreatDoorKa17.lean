/- Texts of the machine over data, folded. -/
import Derived.Test.YtfomjajdfaoogaaGreatDoorKa5
import Derived.Test.YtfomjajdfaoogaaGreatDoorKa16
import Derived.Test.YtfomjajdfaoogaaGreatDoorKa11
import Derived.Test.YtfomjajdfaoogaaGreatDoorKa13
import Derived.Test.YtfomjajdfaoogaaGreatDoorKa15
set_option linter.unusedVariables false
set_option linter.unusedSimpArgs false
set_option maxRecDepth 100000
namespace Go.Proofs.YtfomjajdfaoogaaGreatDoor.AM
open Go Go.RowKit
theorem aS4 {a b : Int} : ∃ r : UInt8, ∀ {P : Program} {t : TypeId} {x y : Operand}, yh P .xor t x y (.int .u8 a) (.int .u8 b) (.int .u8 (r.toNat : Int)) := by
 refine ⟨UInt8.ofNat (IntKind.u8.wrap ((BitVec.ofInt 8 a ^^^ BitVec.ofInt 8 b).toNat : Int)).toNat, fun {P t x y} w => ?_⟩
 have hw : ∀ n : Int, ((UInt8.ofNat (IntKind.u8.wrap n).toNat).toNat : Int) = IntKind.u8.wrap n := fun n => by
  rw [UInt8.toNat_ofNat', IntKind.wrap_u8]; omega
 rw [hw]
 have e2 : Op.intBits .xor .u8 a b = pure (.int .u8 (IntKind.u8.wrap ((BitVec.ofInt 8 a ^^^ BitVec.ofInt 8 b).toNat : Int))) := rfl
 simp [eqGuard, binOp, e2]
section
variable {Θ : Tab} {s : St} {ty : TypeId} {pos : String} {after : Array Edge} {g : Option (Nat × Bool)} {d : Option Tmp}
theorem aTH {x lo : Operand} {a : ByteArray} {k : IntKind} {i : Nat} (hi : i ≤ a.size) (hx : s.ev x = .v (.string a)) (hl : s.ev lo = .v (.int k (i : Int))) : Pre Tryz.prog Θ ⟨d, .slice 9 x (some lo) none none, ty, pos, after, g⟩ s ⟨.v (.string (a.extract i a.size)), none⟩ := by
 refine .inl ⟨.string a, .string (a.extract i a.size), by rw [hx]; rfl, fun y hy => ?_, fun w => ?_, rfl, rfl⟩
 · simp only [Option.toList, List.append_nil, List.mem_cons, List.not_mem_nil, or_false] at hy
   subst hy; rw [hl]; rfl
 · simp only [Option.map_some, Option.map_none, hl, y9, Option.getD_some]
   rw [run_sliceAt_string w _ _ _ _ _ Tryz.underlying9]
   have := run_slice_string_l (P := Tryz.prog) w 9 a Tryz.underlying9 k (i : Int) (by omega) (by omega)
   simpa using this
theorem aRy {x hi : Operand} {a : ByteArray} {k' : IntKind} {j : Nat} (hj : j ≤ a.size) (hx : s.ev x = .v (.string a)) (hh : s.ev hi = .v (.int k' (j : Int))) : Sft Tryz.prog Θ ⟨d, .slice 9 x none (some hi) none, ty, pos, after, g⟩ s (.v (.string (a.extract 0 j))) [] [] :=
 aDg (fun s' hs => aAQ hj ((hs x (by simp [Op.operands])).trans hx) ((hs hi (by simp [Op.operands])).trans hh)) rfl
theorem aRx {x lo : Operand} {a : ByteArray} {k : IntKind} {i : Nat} (hi : i ≤ a.size) (hx : s.ev x = .v (.string a)) (hl : s.ev lo = .v (.int k (i : Int))) : Sft Tryz.prog Θ ⟨d, .slice 9 x (some lo) none none, ty, pos, after, g⟩ s (.v (.string (a.extract i a.size))) [] [] :=
 aDg (fun s' hs => aTH hi ((hs x (by simp [Op.operands])).trans hx) ((hs lo (by simp [Op.operands])).trans hl)) rfl
theorem aRw {t : TypeId} {x i : Operand} {a : ByteArray} {k : IntKind} {j : Nat} (hT : jD Tryz.prog t .str) (hx : s.ev x = .v (.string a)) (hi : s.ev i = .v (.int k (j : Int))) (hj : j < a.size) : Sft Tryz.prog Θ ⟨d, .index t x i, ty, pos, after, g⟩ s (.v (.int .u8 ((a[j]).toNat : Int))) [] [] :=
 aDg (fun s' hs => kC hT ((hs x (by simp [Op.operands])).trans hx) ((hs i (by simp [Op.operands])).trans hi) hj) rfl
end
theorem aJb {t : ByteArray} (h : t.size ≤ 65536) : (qU t).2 = dK t := by unfold qU; rw [if_neg (by omega)]
attribute [local irreducible] xI xO xQ xX yG Pre ACG
set_option maxHeartbeats 16000000 in
theorem law_Bytes {c m : List UInt8} (hc : c.length ≤ maxLen) (hm : m.length ≤ maxLen) : AC Tryz.prog 3 [.lst 1 (c.map uM), .lst 1 (m.map uM)] ⟨.v (.bool true), []⟩ := by
 have hc' := hc
 have hm' := hm
 unfold maxLen at hc' hm'
 by_cases l0 : 1048576 < c.length
 · refine qrf Tryz.func3 Tryz.ntmps3 Tryz.results3 ?_; conv => whnf
   repeat ((refine qz ?_; conv => whnf))
   exact xD rfl trivial
 by_cases l1 : 1048576 < m.length
 · refine qrf Tryz.func3 Tryz.ntmps3 Tryz.results3 ?_; conv => whnf
   repeat ((refine qz ?_; conv => whnf))
   exact xD rfl trivial
 have hz1 : (⟨#[122]⟩ : ByteArray).size = 1 := rfl
 have hz0 : (⟨#[0]⟩ : ByteArray).size = 1 := rfl
 have e1 := aFw (i := 0) (n := 2000) hm (by omega) (by omega)
 have e2 := aFw (i := 0) (n := 2000) hc (by omega) (by omega)
 have at0 := aDy (m := m) (i := 0) (n := 2000) (by omega)
 have at1 := aDy (m := c) (i := 0) (n := 2000) (by omega)
 generalize atS m 0 2000 = A0 at *
 generalize atS c 0 2000 = A1 at *
 have hN4 : A0 * A1 ≤ 4000000 := Nat.le_trans (Nat.mul_le_mul (Nat.le_of_lt at0) (Nat.le_of_lt at1)) (by omega)
 obtain ⟨N, hN0⟩ : ∃ N, N = A0 * A1 := ⟨_, rfl⟩
 have hN : (A0 : Int) * (A1 : Int) = ((N : Nat) : Int) := by rw [hN0]; exact (Int.natCast_mul _ _).symm
 rw [← hN0] at hN4
 have a1 : AC Tryz.prog 5 [.v (.int .i64 ((N : Nat) : Int))] ⟨.tup [.v (.string (xG N)), .v (.int .i64 0)], []⟩ := by
  have h := aQd (n := (N : Int)); rw [aO4 hN4] at h; exact h
 have a2 : AC Tryz.prog 6 [.v (.int .i64 ((N : Nat) : Int))] ⟨.tup [.v (.string (xG N)), .v (.int .i64 0)], []⟩ := by
  have h := aQg (n := (N : Int)); rw [aO4 hN4] at h; exact h
 have h4 := yc (n := N) (by omega)
 have a3 : AC Tryz.prog 7 [.v (.string (⟨#[122]⟩ ++ xG N ++ ⟨#[122]⟩)), .v (.int .i64 1)] ⟨.tup [.v (.int .i64 ((N : Nat) : Int)), .v (.int .i64 ((1 + (xG N).size : Nat) : Int)), .v (.int .i64 0)], []⟩ := by
  have h := aF1 (t := aCg ++ xG N ++ aCg) (x := 1) (by have := aIc N; unfold maxLen; omega)
  rw [aT0 hN4] at h; exact h
 have e3 := aId hc
 obtain ⟨g, gl⟩ := aME c
 generalize aHn c = cs at *
 have hpos := g.pos
 have e4 := aFw (i := 1) (n := cs.length) hm (by omega) (by omega)
 have hJ := aDy (m := m) (i := 1) (n := cs.length) (by omega)
 generalize atS m 1 cs.length = J at *
 have hlos := g.los (by omega) hJ
 obtain ⟨gC, gP⟩ := g.maps _ (List.getElem_mem hJ)
 obtain ⟨C, hC⟩ : ∃ C, C = cs[J] := ⟨_, rfl⟩
 have hidx : (cs.map xS)[J]? = some (.agg [.lst 1 (C.1.map yo), .lst 2 (C.2.map yB)]) := by rw [hC, List.getElem?_map, List.getElem?_eq_getElem hJ]; rfl
 rw [← hC] at hlos gC gP
 have gL := gC.len
 have a4 : AC Tryz.prog 9 [xS C] ⟨.tup [.v (.string (zk C)), .v (.int .i64 0)], []⟩ := by
  have h := aPC (c := C) (by unfold maxLen; omega) (by unfold maxLen; omega) gC.small
  unfold aEE at h; rw [if_pos hlos] at h; exact h
 have a5 : AC Tryz.prog 10 [xS C] ⟨.tup [.v (.string (zk C)), .v (.int .i64 0)], []⟩ := by
  have h := aPJ (c := C) (by unfold maxLen; omega) (by unfold maxLen; omega) gC.small
  unfold aEE at h; rw [if_pos hlos] at h; exact h
 obtain ⟨k1, k2, k3⟩ := aRA hlos
 have a6 : AC Tryz.prog 11 [.v (.string (zk C))] ⟨.tup [.mix [.own 0, .own 1], .v (.int .i64 0)], [⟨.u, 1, C.1.map yo⟩, ⟨.u, 2, C.2.map yB⟩]⟩ := by
  have h := aNQ (t := zk C) (by omega) k1
  rw [k2] at h; exact h
 have t1 := aIk (xs := C.1) (by omega)
 have t2 := aJG (gC.ok (Nat.le_trans gC.len (by omega))) gC.small
 have b0 := aJF hc
 obtain ⟨gB, gBl⟩ := aLR c
 generalize aHR c = B at *
 have hbB := gB.bas
 have hT := aQu hbB
 have b1 : AC Tryz.prog 15 [yA B] ⟨.tup [.v (.string (xu B)), .v (.int .i64 0)], []⟩ := by
  have h := aPB gB.ok
  unfold encR at h; rw [if_pos hbB] at h; exact h
 have b2 : AC Tryz.prog 16 [yA B] ⟨.tup [.v (.string (xu B)), .v (.int .i64 0)], []⟩ := by
  have h := aPI gB.ok
  unfold encR at h; rw [if_pos hbB] at h; exact h
 obtain ⟨q1, q2⟩ := aM0 hbB
 have b3 : AC Tryz.prog 17 [.v (.string (xu B))] ⟨.tup [.mix [.own 0, .own 1], .v (.int .i64 0)], [⟨.u, 2, B.store.map xS⟩, ⟨.u, 4, B.refs.map yL⟩]⟩ := by
  have h := aFz (t := xu B) (by omega) q2
  rw [q1] at h; exact h
 have b4 : AC Tryz.prog 18 [.v (.string (xu B))] ⟨.tup [.v (.int .i64 (uV (xu B))), .v (.int .i64 0)], []⟩ := by
  have h := aNR (t := xu B) (by unfold maxLen; omega)
  unfold aEZ at h; rw [if_neg (by omega)] at h; exact h
 have b5 : AC Tryz.prog 19 [.v (.string (xu B))] ⟨.tup [.v (.int .i64 (uV (xu B))), .v (.int .i64 0)], []⟩ := by
  have h := aNY (t := xu B) (by unfold maxLen; omega)
  unfold aEZ at h; rw [if_neg (by omega)] at h; exact h
 have b6 : AC Tryz.prog 20 [yA B, yA B] ⟨.v (.bool true), []⟩ := by
  have h := aJK gB.ok gB.ok
  have e : aNF B B = true := by unfold aNF; rw [hbB]; simp
  rw [e] at h; exact h
 have hT0 : 0 < (xu B).size := by
  unfold xu; rw [ByteArray.size_append, aBn]
  have : 0 < (yx (uV (uD B)).toNat).length := by rw [yx]; split <;> simp
  omega
 have e5 := aFw (i := 2) (n := (xu B).size) hm (by omega) (by omega)
 have hk := aDy (m := m) (i := 2) (n := (xu B).size) hT0
 generalize atS m 2 (xu B).size = k at *
 have e6 := aFw (i := 3) (n := 255) hm (by omega) (by omega)
 have at3 := aDy (m := m) (i := 3) (n := 255) (by omega)
 generalize atS m 3 255 = x0 at *
 obtain ⟨x8, hx8⟩ : ∃ x8 : UInt8, x8.toNat = 1 + x0 := ⟨UInt8.ofNat (1 + x0), by rw [UInt8.toNat_ofNat']; omega⟩
 obtain ⟨r8, hxor⟩ := aS4 (a := (((xu B)[k]).toNat : Int)) (b := (x8.toNat : Int))
 obtain ⟨bad, hbad⟩ : ∃ bad, bad = (xu B).extract 0 k ++ ⟨[r8].toArray⟩ ++ (xu B).extract (k + 1) (xu B).size := ⟨_, rfl⟩
 have hr1 : (⟨[r8].toArray⟩ : ByteArray).size = 1 := rfl
 have hbs : bad.size ≤ 40000 := by
  rw [hbad, ByteArray.size_append, ByteArray.size_append, ByteArray.size_extract, ByteArray.size_extract]; omega
 have hkb : (qU bad).2 = dK bad := aJb (by omega)
 have d1 : dK bad = 0 → AC Tryz.prog 17 [.v (.string bad)] ⟨.tup [.mix [.own 0, .own 1], .v (.int .i64 0)], [⟨.u, 2, (dB bad).store.map xS⟩, ⟨.u, 4, (dB bad).refs.map yL⟩]⟩ := fun h => aFz (by omega) h
 have d2 : dK bad ≠ 0 → AC Tryz.prog 17 [.v (.string bad)] ⟨.tup [yA ⟨[], []⟩, .v (.int .i64 (dK bad))], []⟩ := fun h => by
  have := aDI (t := bad) (by unfold maxLen; omega) (by rw [hkb]; exact h)
  rw [hkb] at this; exact this
 have d3 : AC Tryz.prog 21 [.v (.string bad)] ⟨.tup [yA (qU bad).1, .v (.int .i64 (dK bad))], []⟩ := by
  have := aJX (t := bad) (by unfold maxLen; omega)
  rw [hkb] at this; exact this
 have hcs := aSt (t := xu B) (k := k) (by omega)
 have hcut : dK ((xu B).extract 0 k) = 3 := aSb hbB aR5 (by omega)
 have hck : (qU ((xu B).extract 0 k)).2 = 3 := by rw [aJb (by omega), hcut]
 have d4 : AC Tryz.prog 17 [.v (.string ((xu B).extract 0 k))] ⟨.tup [yA ⟨[], []⟩, .v (.int .i64 3)], []⟩ := by
  have := aDI (t := (xu B).extract 0 k) (by unfold maxLen; omega) (by rw [hck]; omega)
  rw [hck] at this; exact this
 have d5 : AC Tryz.prog 21 [.v (.string ((xu B).extract 0 k))] ⟨.tup [yA (qU ((xu B).extract 0 k)).1, .v (.int .i64 3)], []⟩ := by
  have := aJX (t := (xu B).extract 0 k) (by unfold maxLen; omega)
  rw [hck] at this; exact this
 have hms : (xu B ++ ⟨#[0]⟩).size = (xu B).size + 1 := by rw [ByteArray.size_append, hz0]
 have hmk : (qU (xu B ++ ⟨#[0]⟩)).2 = 3 := by rw [aJb (by omega), aQz hbB aR4 (by omega)]
 have d6 : AC Tryz.prog 17 [.v (.string (xu B ++ ⟨#[0]⟩))] ⟨.tup [yA ⟨[], []⟩, .v (.int .i64 3)], []⟩ := by
  have := aDI (t := xu B ++ ⟨#[0]⟩) (by unfold maxLen; omega) (by rw [hmk]; omega)
  rw [hmk] at this; exact this
 generalize (qU bad).1 = BB at *
 generalize (qU ((xu B).extract 0 k)).1 = BC at *
 clear q1 q2 hkb hck hmk hcut hms hbB hlos k1 k2 gB g gC
 generalize dB bad = DB0 at *
 generalize dK bad = kb at *
 generalize uV (xu B) = sm at *
 generalize xu B = T at *
 as_aux_lemma =>
  refine qO Tryz.func3 Tryz.ntmps3 Tryz.results3 ?_
  refine jd ?_
  refine xA _ _ _ ?_
  conv => whnf
  repeat (first | (refine qz ?_; conv => whnf))
  refine jd ?_
  refine xA _ _ _ ?_
  conv => whnf
  repeat (first | (refine qz ?_; conv => whnf))
  refine kG (ι := Unit) (fun _ => ⟨[(0, .lst 1 (c.map uM)), (1, .lst 1 (m.map uM)), (5, .v (.int .i64 ((N : Nat) : Int)))], [], []⟩) ?_ (fun _ => ?_)
  · refine xA _ _ _ ?_
    conv => whnf
    repeat ((first | refine qc (e1) ?_ | refine qc (e2) ?_ | refine qp (xC (uh (c := ((N : Nat) : Int)) hN (by omega) (by omega)) rfl rfl rfl) ?_ | refine qz ?_); conv => whnf)
    exact ⟨(), ⟨by exact qle, trivial⟩⟩
  refine jd ?_
  refine xA _ _ _ ?_
  conv => whnf
  repeat ((first | refine qc (a1) ?_ | refine qz ?_); conv => whnf)
  refine jd ?_
  refine xA _ _ _ ?_
  conv => whnf
  repeat ((first | refine qc (a2) ?_ | refine qz ?_); conv => whnf)
  refine kG (ι := Unit) (fun _ => ⟨[(0, .lst 1 (c.map uM)), (1, .lst 1 (m.map uM)), (5, .v (.int .i64 ((N : Nat) : Int))), (6, .v (.string (xG N))), (7, .v (.int .i64 0)), (8, .v (.string (xG N))), (10, .v (.int .i64 ((N : Nat) : Int))), (11, .v (.int .i64 ((1 + (xG N).size : Nat) : Int))), (12, .v (.int .i64 0))], [], []⟩) ?_ (fun _ => ?_)
  · refine xA _ _ _ ?_
    conv => whnf
    repeat (first | (refine qc (a3) ?_; conv => whnf) | (refine qp (xC (qQ (by first | omega | (simp only [ByteArray.size_append]; omega))) rfl rfl rfl) ?_; conv => whnf) | (refine qz ?_; conv => whnf))
    exact ⟨(), ⟨by exact qle, trivial⟩⟩
  refine kG (ι := Unit) (fun _ => ⟨[(0, .lst 1 (c.map uM)), (1, .lst 1 (m.map uM)), (5, .v (.int .i64 ((N : Nat) : Int))), (6, .v (.string (xG N))), (7, .v (.int .i64 0)), (8, .v (.string (xG N))), (10, .v (.int .i64 ((N : Nat) : Int))), (11, .v (.int .i64 ((1 + (xG N).size : Nat) : Int))), (12, .v (.int .i64 0)), (13, .lst 2 (cs.map xS))], [], []⟩) ?_ (fun _ => ?_)
  · refine xA _ _ _ ?_
    conv => whnf
    repeat ((first | refine qf (e3) ?_ | refine qz ?_); conv => whnf)
    exact ⟨(), ⟨by exact qle, trivial⟩⟩
  refine kG (ι := Unit) (fun _ => ⟨[(0, .lst 1 (c.map uM)), (1, .lst 1 (m.map uM)), (5, .v (.int .i64 ((N : Nat) : Int))), (6, .v (.string (xG N))), (7, .v (.int .i64 0)), (8, .v (.string (xG N))), (10, .v (.int .i64 ((N : Nat) : Int))), (11, .v (.int .i64 ((1 + (xG N).size : Nat) : Int))), (12, .v (.int .i64 0)), (14, .optr 15 0 [] 0)], [(15, ⟨.s 33, 2, [xS C]⟩)], []⟩) ?_ (fun _ => ?_)
  · refine xA _ _ _ ?_
    conv => whnf
    repeat ((first | refine qc (e4) ?_ | refine qp (aAO hidx rfl rfl rfl) ?_ | refine qst ?_ | refine qz ?_); conv => whnf)
    exact ⟨(), ⟨by exact qle, trivial⟩⟩
  refine jd ?_
  refine xA _ _ _ ?_
  conv => whnf
  repeat ((first | refine qc (a4) ?_ | refine qz ?_); conv => whnf)
  refine kG (ι := Unit) (fun _ => ⟨[(0, .lst 1 (c.map uM)), (1, .lst 1 (m.map uM)), (5, .v (.int .i64 ((N : Nat) : Int))), (6, .v (.string (xG N))), (7, .v (.int .i64 0)), (8, .v (.string (xG N))), (10, .v (.int .i64 ((N : Nat) : Int))), (11, .v (.int .i64 ((1 + (xG N).size : Nat) : Int))), (12, .v (.int .i64 0)), (14, .optr 15 0 [] 0), (15, .v (.string (zk C))), (16, .v (.int .i64 0)), (17, .v (.string (zk C)))], [(15, ⟨.s 33, 2, [xS C]⟩)], []⟩) ?_ (fun _ => ?_)
  · refine xA _ _ _ ?_
    conv => whnf
    repeat ((first | refine qc (a5) ?_ | refine qz ?_); conv => whnf)
    exact ⟨(), ⟨by exact qle, trivial⟩⟩
  refine jd ?_
  refine xA _ _ _ ?_
  conv => whnf
  repeat ((first | refine qc (a6) ?_ | refine qr (yJ rfl rfl rfl rfl rfl rfl) ?_ | refine qz ?_); conv => whnf)
  refine kG (ι := Unit) (fun _ => ⟨[(0, .lst 1 (c.map uM)), (1, .lst 1 (m.map uM))], [], []⟩) ?_ (fun _ => ?_)
  · refine xA _ _ _ ?_
    conv => whnf
    repeat ((first | refine qp (xC (aHQ rfl) rfl rfl rfl) ?_ | refine qc (t1) ?_ | refine qc (t2) ?_ | refine qz ?_); conv => whnf)
    exact ⟨(), ⟨by exact qle, trivial⟩⟩
  clear a1 a2 a3 a4 a5 a6 e1 e2 e3 e4 t1 t2
  refine kG (ι := Unit) (fun _ => ⟨[(1, .lst 1 (m.map uM)), (21, .optr 22 0 [] 0)], [(22, ⟨.s 41, 2, [yA B]⟩)], []⟩) ?_ (fun _ => ?_)
  · refine xA _ _ _ ?_
    conv => whnf
    repeat ((first | refine qf (b0) ?_ | refine qst ?_ | refine qz ?_); conv => whnf)
    exact ⟨(), ⟨by exact qle, trivial⟩⟩
  refine jd ?_
  refine xA _ _ _ ?_
  conv => whnf
  repeat ((first | refine qc (b1) ?_ | refine qz ?_); conv => whnf)
  refine kG (ι := Unit) (fun _ => ⟨[(1, .lst 1 (m.map uM)), (21, .optr 22 0 [] 0), (22, .v (.string T)), (23, .v (.int .i64 0)), (24, .v (.string T))], [(22, ⟨.s 41, 2, [yA B]⟩)], []⟩) ?_ (fun _ => ?_)
  · refine xA _ _ _ ?_
    conv => whnf
    repeat ((first | refine qc (b2) ?_ | refine qz ?_); conv => whnf)
    exact ⟨(), ⟨by exact qle, trivial⟩⟩
  refine jd ?_
  refine xA _ _ _ ?_
  conv => whnf
  repeat ((first | refine qc (b3) ?_ | refine qr (yJ rfl rfl rfl rfl rfl rfl) ?_ | refine qz ?_); conv => whnf)
  refine jd ?_
  refine xA _ _ _ ?_
  conv => whnf
  repeat ((first | refine qc (b4) ?_ | refine qz ?_); conv => whnf)
  refine jd ?_
  refine xA _ _ _ ?_
  conv => whnf
  repeat ((first | refine qc (b5) ?_ | refine qz ?_); conv => whnf)
  refine kG (ι := Unit) (fun _ => ⟨[(1, .lst 1 (m.map uM)), (24, .v (.string T))], [], []⟩) ?_ (fun _ => ?_)
  · refine xA _ _ _ ?_
    conv => whnf
    repeat ((first | refine qp (xC (aHQ rfl) rfl rfl rfl) ?_ | refine qc (b6) ?_ | refine qz ?_); conv => whnf)
    exact ⟨(), ⟨by exact qle, trivial⟩⟩
  clear b0 b1 b2 b3 b4 b5 b6
  refine kG (ι := Unit) (fun _ => ⟨[(1, .lst 1 (m.map uM)), (24, .v (.string T)), (32, .v (.int .i64 ((k : Nat) : Int)))], [], []⟩) ?_ (fun _ => ?_)
  · refine xA _ _ _ ?_
    conv => whnf
    repeat ((first | refine qc (e5) ?_ | refine qz ?_); conv => whnf)
    exact ⟨(), ⟨by exact qle, trivial⟩⟩
  refine kG (ι := Unit) (fun _ => ⟨[(24, .v (.string T)), (32, .v (.int .i64 ((k : Nat) : Int))), (33, .v (.string bad))], [], []⟩) ?_ (fun _ => ?_)
  · refine xA _ _ _ ?_
    conv => whnf
    refine .inr ⟨by kernel_rfl, vv (by kernel_rfl), ?_⟩
    repeat (first | refine xJ (wT rfl) rfl rfl rfl (.inl rfl) (by kernel_rfl) ?_ | refine xU (aRy (by omega) rfl rfl) ul rfl rfl (by kernel_rfl) ?_ | refine xU (aRw (xH 9) rfl rfl hk) ul rfl rfl (by kernel_rfl) ?_ | refine xU (aCI e6 rfl rfl rfl (by first | exact trivial | exact ⟨⟨rfl, rfl, rfl⟩, trivial⟩ | exact ⟨⟨rfl, rfl, rfl⟩, ⟨rfl, rfl, rfl⟩, trivial⟩ | exact ⟨⟨rfl, rfl, rfl⟩, ⟨rfl, rfl, rfl⟩, ⟨rfl, rfl, rfl⟩, trivial⟩) rfl rfl rfl) aDX rfl rfl (by kernel_rfl) ?_ | refine xJ (xC (zN (c := ((x8 : UInt8).toNat : Int)) (by omega) (by omega) (by omega)) rfl rfl rfl) rfl rfl rfl (.inl rfl) (by kernel_rfl) ?_ | refine xU (aRz (b := x8) rfl rfl) ul rfl rfl (by kernel_rfl) ?_ | refine xJ (xC hxor rfl rfl rfl) rfl rfl rfl (.inl rfl) (by kernel_rfl) ?_ | refine xU (aRt rfl rfl rfl rfl rfl rfl) aAF rfl rfl (by kernel_rfl) ?_ | refine xU (aRu rfl rfl rfl (aHx [r8]) rfl) ul rfl rfl (by kernel_rfl) ?_ | refine xJ (xC (qQ (by first | omega | (simp only [ByteArray.size_append, ByteArray.size_extract]; omega))) rfl rfl rfl) rfl rfl rfl (.inl rfl) (by kernel_rfl) ?_ | refine xJ (xC (zN (c := ((k + 1 : Nat) : Int)) (by omega) (by omega) (by omega)) rfl rfl rfl) rfl rfl rfl (.inl rfl) (by kernel_rfl) ?_ | refine xU (aRx (by omega) rfl rfl) ul rfl rfl (by kernel_rfl) ?_ | refine xU (aOr rfl) ul rfl rfl (by kernel_rfl) ?_)
    refine jo ?_
    conv => whnf
    exact ⟨(), ⟨by rw [hbad]; exact qle, trivial⟩⟩
  refine kG (ι := Unit) (fun _ => ⟨[(24, .v (.string T)), (32, .v (.int .i64 ((k : Nat) : Int))), (33, .v (.string bad)), (35, .v (.int .i64 kb))], [], []⟩) ?_ (fun _ => ?_)
  · by_cases hz : kb = 0
    · have f1 := d1 hz
      subst hz
      refine xA _ _ _ ?_
      conv => whnf
      repeat ((first | refine qc (f1) ?_ | refine qr (yJ rfl rfl rfl rfl rfl rfl) ?_ | refine qz ?_); conv => whnf)
      exact ⟨(), ⟨by exact qle, trivial⟩⟩
    · have f1 := d2 hz
      refine xA _ _ _ ?_
      conv => whnf
      repeat ((first | refine qc (f1) ?_ | refine qst ?_ | refine qz ?_); conv => whnf)
      exact ⟨(), ⟨by exact qle, trivial⟩⟩
  refine kG (ι := Unit) (fun _ => ⟨[(24, .v (.string T)), (32, .v (.int .i64 ((k : Nat) : Int))), (35, .v (.int .i64 kb)), (37, .v (.int .i64 kb))], [], []⟩) ?_ (fun _ => ?_)
  · refine xA _ _ _ ?_
    conv => whnf
    repeat ((first | refine qc (d3) ?_ | refine qst ?_ | refine qz ?_); conv => whnf)
    exact ⟨(), ⟨by exact qle, trivial⟩⟩
  refine kG (ι := Unit) (fun _ => ⟨[(24, .v (.string T)), (32, .v (.int .i64 ((k : Nat) : Int))), (35, .v (.int .i64 kb)), (37, .v (.int .i64 kb)), (39, .v (.int .i64 3))], [], []⟩) ?_ (fun _ => ?_)
  · refine xA _ _ _ ?_
    conv => whnf
    repeat ((first | refine qp (aAQ (by omega) rfl rfl) ?_ | refine qc (d4) ?_ | refine qst ?_ | refine qz ?_); conv => whnf)
    exact ⟨(), ⟨by exact qle, trivial⟩⟩
  refine kG (ι := Unit) (fun _ => ⟨[(24, .v (.string T)), (35, .v (.int .i64 kb)), (37, .v (.int .i64 kb)), (39, .v (.int .i64 3)), (41, .v (.int .i64 3))], [], []⟩) ?_ (fun _ => ?_)
  · refine xA _ _ _ ?_
    conv => whnf
    repeat ((first | refine qp (aAQ (by omega) rfl rfl) ?_ | refine qc (d5) ?_ | refine qst ?_ | refine qz ?_); conv => whnf)
    exact ⟨(), ⟨by exact qle, trivial⟩⟩
  refine kG (ι := Unit) (fun _ => ⟨[(35, .v (.int .i64 kb)), (37, .v (.int .i64 kb)), (39, .v (.int .i64 3)), (41, .v (.int .i64 3)), (43, .v (.int .i64 3))], [], []⟩) ?_ (fun _ => ?_)
  · refine xA _ _ _ ?_
    conv => whnf
    repeat (first | (refine qp (xC (qQ (by first | omega | (simp only [ByteArray.size_append]; omega))) rfl rfl rfl) ?_; conv => whnf) | (refine qc (d6) ?_; conv => whnf) | (refine qst ?_; conv => whnf) | (refine qz ?_; conv => whnf))
    exact ⟨(), ⟨by exact qle, trivial⟩⟩
  refine xA _ _ _ ?_
  conv => whnf
  repeat (first | (refine qz ?_; conv => whnf))
  exact xD rfl trivial
end Go.Proofs.YtfomjajdfaoogaaGreatDoor.AM
