/- Texts of the machine over data, folded. -/
import Derived.Test.YtodckioppgjbdaaDoorKa5
import Derived.Test.YtodckioppgjbdaaDoorKa10
set_option linter.unusedVariables false
set_option linter.unusedSimpArgs false
set_option maxRecDepth 100000
namespace Go.Proofs.YtodckioppgjbdaaDoor.AM
open Go Go.RowKit
def opT (o : Opr) : ByteArray := if o.kind = 0 then ⟨#[]⟩ else kD [vg o.kind, o.name, za ⟨#[102, 114, 111, 109]⟩ (uzT o.frm)]
theorem aJ1 {o : Opr} (h : opB o = true) : ∃ j : Nat, 1 ≤ j ∧ j < 7 ∧ o.kind = (j : Int) ∧ owL[j]? = some (vg o.kind) := by
 obtain ⟨_, _, _, hk⟩ := wZ h
 refine ⟨o.kind.toNat, by omega, by omega, by omega, ?_⟩
 rcases hk with e | e | e | e | e | e <;> rw [e] <;> rfl
theorem aH0 {o : Opr} (h : opB o = true) : (vg o.kind).size ≤ 6 ∧ ¬ (vg o.kind).size = 0 := by
 obtain ⟨_, _, _, hk⟩ := wZ h
 rcases hk with e | e | e | e | e | e <;> rw [e] <;> exact ⟨by decide, by decide⟩
theorem aHF {n : Int} (h0 : -1000000000000 ≤ n) (h1 : n ≤ 1000000000000) : (uzT n).size ≤ 14 := by
 unfold uzT; split
 · show 0 ≤ 14; omega
 · exact yc h0 h1
theorem aEv {l t : ByteArray} (h1 : l.size ≤ 10) (h2 : t.size ≤ 1000) : (za l t).size ≤ 2100 := by
 unfold za; split
 · show 0 ≤ 2100; omega
 · have := qW (ps := [l, t]) (B := 1000) (by intro p hp; simp only [List.mem_cons, List.not_mem_nil, or_false] at hp; rcases hp with rfl | rfl <;> omega)
   simp only [List.length_cons, List.length_nil] at this; omega
theorem aJ2 {o : Opr} (h : o.kind = 0 ∨ opB o = true) : (opT o).size ≤ 7000 := by
 unfold opT
 split
 · show 0 ≤ 7000; omega
 · rename_i h0
   rcases h with h | h
   · exact absurd h h0
   obtain ⟨n1, n2, n3, n4⟩ := wZ h
   have k1 := (aH0 h).1
   have l1 := aEv (l := ⟨#[102, 114, 111, 109]⟩) (t := uzT o.frm) (by decide) (Nat.le_trans (aHF (by omega) (by omega)) (by omega))
   have := qW (ps := [vg o.kind, o.name, za ⟨#[102, 114, 111, 109]⟩ (uzT o.frm)]) (B := 2100) (by
    intro p hp; simp only [List.mem_cons, List.not_mem_nil, or_false] at hp; rcases hp with rfl | rfl | rfl <;> omega)
   simp only [List.length_cons, List.length_nil] at this; omega
theorem aIw : ((⟨#[32]⟩ ++ ⟨#[102, 114, 111, 109]⟩) ++ ⟨#[32]⟩ : ByteArray) = ⟨#[32, 102, 114, 111, 109, 32]⟩ := ByteArray.ext (by simp [ByteArray.data_append])
theorem aJA : (⟨#[115, 116, 101, 112]⟩ ++ ⟨#[32]⟩ : ByteArray) = ⟨#[115, 116, 101, 112, 32]⟩ := ByteArray.ext (by simp [ByteArray.data_append])
theorem aHO : ((⟨#[32]⟩ ++ ⟨#[99, 108, 105, 101, 110, 116]⟩) ++ ⟨#[32]⟩ : ByteArray) = ⟨#[32, 99, 108, 105, 101, 110, 116, 32]⟩ := ByteArray.ext (by simp [ByteArray.data_append])
theorem aJB : ((⟨#[32]⟩ ++ ⟨#[119, 105, 115, 104]⟩) ++ ⟨#[32]⟩ : ByteArray) = ⟨#[32, 119, 105, 115, 104, 32]⟩ := ByteArray.ext (by simp [ByteArray.data_append])
theorem aCR {n : Int} : ¬ (y5 n).size = 0 := by have := aA4 (n := n); omega
theorem aJ0 {m : Mom} (h : m.op.kind = 0 ∨ opB m.op = true) (hn : m.op.kind = 0 ∨ ¬ m.op.name.size = 0) :
 kD [⟨#[115, 116, 101, 112]⟩, y5 m.step, ⟨#[99, 108, 105, 101, 110, 116]⟩, y5 m.client, ⟨#[119, 105, 115, 104]⟩, y5 m.wish, opT m.op] = mT3 m := by
 have e1 : kD [⟨#[115, 116, 101, 112]⟩, y5 m.step, ⟨#[99, 108, 105, 101, 110, 116]⟩, y5 m.client, ⟨#[119, 105, 115, 104]⟩, y5 m.wish, opT m.op] = spA (mT1 m) [opT m.op] := by
  rw [aBz (by decide), wM aCR, wM (by decide), wM aCR, wM (by decide), wM aCR]
  congr 1
  unfold mT1
  rw [← aJA, ← aHO, ← aJB]
  simp only [qd]
 rw [e1]
 unfold mT3 mT2 opT
 by_cases h0 : m.op.kind = 0
 · rw [if_pos h0, aGA rfl, kC, if_neg (by omega), if_neg (by omega)]
 · rw [if_neg h0]
   rcases h with h | h
   · exact absurd h h0
   rcases hn with hn | hn
   · exact absurd hn h0
   obtain ⟨n1, n2, n3, n4⟩ := wZ h
   have hk : 0 < m.op.kind := by omega
   have kn := (aH0 h).2
   rw [aBz kn, wM hn, qV (by decide), kC, aIw, if_pos hk]
   by_cases hf : m.op.frm = 0
   · rw [if_pos (aBA.2 hf), if_neg (by omega), wM (by simp only [ByteArray.size_append]; omega), kC]
     have e32 : (⟨#[32]⟩ ++ vg m.op.kind : ByteArray) = ⟨#[32]⟩ ++ vg m.op.kind := rfl
     simp only [qd]
   · rw [if_neg (fun e => hf (aBA.1 e)), if_pos ⟨hk, by omega⟩, aGC hf, wM (by simp only [ByteArray.size_append]; omega), kC]
     simp only [qd]
section
variable {P : Program} {Θ : Tab} {s : St} {ty : TypeId} {pos : String} {after : Array Edge} {g : Option (Nat × Bool)} {d : Option Tmp}
theorem aGv {t el m sz : Nat} {z : AV} {x ix : Operand} {k : IntKind} {j : Nat} {xs : List AV} {y : AV} (hy : xs[j]? = some y) (hj : j < m) (ht : Θ.look t = .arr el m sz z) (hx : s.ev x = .ptr (.agg xs)) (hi : s.ev ix = .v (.int k ((j : Nat) : Int))) (ha : ∀ x ∈ xs, asz x = sz) :
 Sft P Θ ⟨d, .indexAddr t x ix, ty, pos, after, g⟩ s (.ptr y) [] [] :=
 aEN (fun s' hs => aFG hy hj ht ((hs x (by simp [Op.operands])).trans hx) ((hs ix (by simp [Op.operands])).trans hi) ha) (by simp [AV.within])
end
attribute [local irreducible] xJ xN xQ yQ yU Pre ACG
theorem aGH {o : Opr} (h : o.kind = 0 ∨ opB o = true) : AC Tryd.prog 96 [wK o] ⟨.v (.string (opT o)), []⟩ := by
 unfold opT
 by_cases h0 : o.kind = 0
 · rw [if_pos h0]
   refine qrf Tryd.func96 Tryd.ntmps96 Tryd.results96 ?_; conv => whnf
   repeat ((refine qz ?_; conv => whnf))
   exact xB rfl trivial
 · rw [if_neg h0]
   rcases h with h | h
   · exact absurd h h0
   obtain ⟨n1, n2, n3, n4⟩ := wZ h
   obtain ⟨j, j1, j2, jk, jo⟩ := aJ1 h
   have k1 := (aH0 h).1
   have u1 := aHF (n := o.frm) (by omega) (by omega)
   have c1 := aFZ (n := o.frm) (by omega) (by omega)
   have c2 := aAS (l := ⟨#[102, 114, 111, 109]⟩) (t := uzT o.frm) (by decide) (by omega)
   have l1 := aEv (l := ⟨#[102, 114, 111, 109]⟩) (t := uzT o.frm) (by decide) (by omega)
   have c3 := jX (ps := [vg o.kind, o.name, za ⟨#[102, 114, 111, 109]⟩ (uzT o.frm)]) (by simp) (by
    intro p hp; simp only [List.mem_cons, List.not_mem_nil, or_false] at hp; rcases hp with rfl | rfl | rfl <;> omega)
   generalize kD [vg o.kind, o.name, za ⟨#[102, 114, 111, 109]⟩ (uzT o.frm)] = R at *
   generalize za ⟨#[102, 114, 111, 109]⟩ (uzT o.frm) = L1 at *
   generalize uzT o.frm = U1 at *
   generalize vg o.kind = K at *
   have he : wK o = .agg [.v (.int .i64 ((j : Nat) : Int)), .v (.int .i64 o.frm), .v (.string o.name), .v (.string o.key), .lst 3 (o.edits.map zJ)] := by unfold wK; rw [jk]
   rw [he]
   refine qrf Tryd.func96 Tryd.ntmps96 Tryd.results96 ?_; conv => whnf
   repeat ((refine qz ?_; conv => whnf))
   refine .inr ⟨by kernel_rfl, wo (by kernel_rfl), ?_⟩
   repeat (first
    | refine yP (jS rfl rfl rfl) rfl rfl rfl (.inl rfl) (by kernel_rfl) ?_
    | refine yP (kK rfl rfl rfl rfl rfl rfl rfl) rfl rfl rfl (.inr rfl) (by kernel_rfl) ?_
    | refine xk (aGv (xs := owL.map fun s => .v (.string s)) (y := .v (.string K)) (by rw [List.getElem?_map, jo]; rfl) j2 rfl rfl rfl (fun x hx => by obtain ⟨e, _, rfl⟩ := List.mem_map.1 hx; rfl)) wH rfl rfl (by kernel_rfl) ?_
    | refine yP (aJ7 rfl rfl rfl rfl) rfl rfl rfl (.inr rfl) (by kernel_rfl) ?_
    | refine xk (y7 c1 rfl rfl rfl trivial rfl rfl rfl) yx rfl rfl (by kernel_rfl) ?_
    | refine xk (y7 c2 rfl rfl rfl trivial rfl rfl rfl) yx rfl rfl (by kernel_rfl) ?_
    | refine xk (aBY [.tmp 9, .tmp 11, .tmp 15] [.string K, .string o.name, .string L1] rfl rfl rfl rfl rfl rfl rfl (by intro c hc; simp only [List.mem_cons, List.not_mem_nil, or_false] at hc; rcases hc with rfl | rfl | rfl <;> rfl)) aDP rfl rfl (by kernel_rfl) ?_
    | refine xk (aAf c3 rfl ⟨by simp [yB, yg], qG⟩ trivial rfl rfl rfl) yx rfl rfl (by kernel_rfl) ?_
    | refine xk (jE rfl) wH rfl rfl (by kernel_rfl) ?_)
   refine qJ ?_
   conv => whnf
   repeat ((refine qz ?_; conv => whnf))
   exact xB rfl trivial
section
attribute [local irreducible] yo
set_option maxHeartbeats 4000000 in
theorem aGG {m : Mom} (ho : m.op.ok maxLen) (hr : m.res.ok maxLen) : AC Tryd.prog 93 [vR m] ⟨.v (.bool (mmB m)), []⟩ := by
 have c1 := aHG ho
 have c2 := aDY hr
 unfold mmB
 show AC _ _ [.agg [.v (.int .i64 m.client), .v (.int .i64 m.wish), .v (.int .i64 m.step), .agg [.v (.int .i64 m.op.kind), .v (.int .i64 m.op.frm), .v (.string m.op.name), .v (.string m.op.key), .lst 3 (m.op.edits.map zJ)], .agg [.v (.int .i64 m.res.code), .v (.int .i64 m.res.com), .v (.int .i64 m.res.val), .lst 1 (m.res.keys.map yN), .lst 2 (m.res.map.map zY)]]] _
 change AC _ _ [.agg [.v (.int .i64 m.op.kind), .v (.int .i64 m.op.frm), .v (.string m.op.name), .v (.string m.op.key), .lst 3 (m.op.edits.map zJ)]] _ at c1
 change AC _ _ [.agg [.v (.int .i64 m.res.code), .v (.int .i64 m.res.com), .v (.int .i64 m.res.val), .lst 1 (m.res.keys.map yN), .lst 2 (m.res.map.map zY)]] _ at c2
 by_cases a0 : 0 ≤ m.step
 case neg =>
  rw [decide_eq_false (show ¬ (0 ≤ m.step ∧ m.step ≤ 1000000) from fun h => a0 h.1), Bool.false_and]
  as_aux_lemma =>
   refine qO Tryd.func93 Tryd.ntmps93 Tryd.results93 ?_
   repeat (first | refine qla ?_ | refine qP (xA (by first | exact vV (by omega) | exact uz (by omega)) rfl rfl rfl) ?_ | refine qlb ?_ | refine qx ?_)
   exact qe
 by_cases b0 : m.step ≤ 1000000
 case neg =>
  rw [decide_eq_false (show ¬ (0 ≤ m.step ∧ m.step ≤ 1000000) from fun h => b0 h.2), Bool.false_and]
  as_aux_lemma =>
   refine qO Tryd.func93 Tryd.ntmps93 Tryd.results93 ?_
   repeat (first | refine qla ?_ | refine qP (xA (by first | exact vV (by omega) | exact uz (by omega)) rfl rfl rfl) ?_ | refine qlb ?_ | refine qx ?_)
   exact qe
 rw [decide_eq_true (show 0 ≤ m.step ∧ m.step ≤ 1000000 from ⟨a0, b0⟩), Bool.true_and]
 by_cases a1 : 0 ≤ m.client
 case neg =>
  rw [decide_eq_false (show ¬ (0 ≤ m.client ∧ m.client ≤ 5) from fun h => a1 h.1), Bool.false_and]
  as_aux_lemma =>
   refine qO Tryd.func93 Tryd.ntmps93 Tryd.results93 ?_
   repeat (first | refine qla ?_ | refine qP (xA (by first | exact vV (by omega) | exact uz (by omega)) rfl rfl rfl) ?_ | refine qlb ?_ | refine qx ?_)
   exact qe
 by_cases b1 : m.client ≤ 5
 case neg =>
  rw [decide_eq_false (show ¬ (0 ≤ m.client ∧ m.client ≤ 5) from fun h => b1 h.2), Bool.false_and]
  as_aux_lemma =>
   refine qO Tryd.func93 Tryd.ntmps93 Tryd.results93 ?_
   repeat (first | refine qla ?_ | refine qP (xA (by first | exact vV (by omega) | exact uz (by omega)) rfl rfl rfl) ?_ | refine qlb ?_ | refine qx ?_)
   exact qe
 rw [decide_eq_true (show 0 ≤ m.client ∧ m.client ≤ 5 from ⟨a1, b1⟩), Bool.true_and]
 by_cases a2 : 0 ≤ m.wish
 case neg =>
  rw [decide_eq_false (show ¬ (0 ≤ m.wish ∧ m.wish ≤ 6) from fun h => a2 h.1), Bool.false_and]
  as_aux_lemma =>
   refine qO Tryd.func93 Tryd.ntmps93 Tryd.results93 ?_
   repeat (first | refine qla ?_ | refine qP (xA (by first | exact vV (by omega) | exact uz (by omega)) rfl rfl rfl) ?_ | refine qlb ?_ | refine qx ?_)
   exact qe
 by_cases b2 : m.wish ≤ 6
 case neg =>
  rw [decide_eq_false (show ¬ (0 ≤ m.wish ∧ m.wish ≤ 6) from fun h => b2 h.2), Bool.false_and]
  as_aux_lemma =>
   refine qO Tryd.func93 Tryd.ntmps93 Tryd.results93 ?_
   repeat (first | refine qla ?_ | refine qP (xA (by first | exact vV (by omega) | exact uz (by omega)) rfl rfl rfl) ?_ | refine qlb ?_ | refine qx ?_)
   exact qe
 rw [decide_eq_true (show 0 ≤ m.wish ∧ m.wish ≤ 6 from ⟨a2, b2⟩), Bool.true_and]
 by_cases h4 : m.op.kind = 0
 · rw [decide_eq_true h4, Bool.true_or, Bool.true_and]
   as_aux_lemma =>
    refine qO Tryd.func93 Tryd.ntmps93 Tryd.results93 ?_
    repeat (first | refine qla ?_ | refine qC (c2) ?_ | refine qP (xA (by first | exact vV (by omega) | exact uz (by omega)) rfl rfl rfl) ?_ | refine qlb ?_ | refine qx ?_)
    exact qe
 · rw [decide_eq_false h4, Bool.false_or]
   cases h5 : opB m.op with
   | false =>
    rw [h5] at c1
    rw [Bool.false_and]
    as_aux_lemma =>
     refine qO Tryd.func93 Tryd.ntmps93 Tryd.results93 ?_
     repeat (first | refine qla ?_ | refine qC (c1) ?_ | refine qP (xA (by first | exact vV (by omega) | exact uz (by omega)) rfl rfl rfl) ?_ | refine qlb ?_ | refine qx ?_)
     exact qe
   | true =>
    rw [h5] at c1
    rw [Bool.true_and]
    as_aux_lemma =>
     refine qO Tryd.func93 Tryd.ntmps93 Tryd.results93 ?_
     repeat (first | refine qla ?_ | refine qC (c1) ?_ | refine qC (c2) ?_ | refine qP (xA (by first | exact vV (by omega) | exact uz (by omega)) rfl rfl rfl) ?_ | refine qlb ?_ | refine qx ?_)
     exact qe
end
theorem aCH {m : Mom} (ho : m.op.ok maxLen) (hr : m.res.ok maxLen) : AC Tryd.prog 45 [vR m] ⟨.tup [.v (.string (zy m).1), .v (.int .i64 (zy m).2)], []⟩ := by
 have c1 := aGG ho hr
 unfold zy
 cases h : mmB m with
 | false =>
  rw [h] at c1
  rw [if_neg (by decide)]
  refine qrf Tryd.func45 Tryd.ntmps45 Tryd.results45 ?_; conv => whnf
  repeat ((first | refine qz ?_ | refine qc (c1) ?_); conv => whnf)
  exact aC3 rfl rfl
 | true =>
  rw [h] at c1
  rw [if_pos rfl]
  unfold mmB at h
  simp only [Bool.and_eq_true, Bool.or_eq_true, decide_eq_true_eq] at h
  obtain ⟨s1, s2, s3, hop, hrs⟩ := h
  have hn : m.op.kind = 0 ∨ ¬ m.op.name.size = 0 := by
   rcases hop with h | h
   · exact .inl h
   · right
     have hh := h
     unfold opB at hh
     rw [Bool.and_eq_true] at hh
     have := aEA hh.1
     omega
  have e := aJ0 hop hn
  have z1 := yc (n := m.step) (by omega) (by omega)
  have z2 := yc (n := m.client) (by omega) (by omega)
  have z3 := yc (n := m.wish) (by omega) (by omega)
  have z4 := aJ2 hop
  have c2 := qA (n := m.step) (by omega) (by omega)
  have c3 := qA (n := m.client) (by omega) (by omega)
  have c4 := qA (n := m.wish) (by omega) (by omega)
  have c5 := aGH hop
  have hin : ∀ p ∈ [⟨#[115, 116, 101, 112]⟩, y5 m.step, ⟨#[99, 108, 105, 101, 110, 116]⟩, y5 m.client, ⟨#[119, 105, 115, 104]⟩, y5 m.wish, opT m.op], p.size ≤ 7000 := by
   intro p hp; simp only [List.mem_cons, List.not_mem_nil, or_false] at hp
   rcases hp with rfl | rfl | rfl | rfl | rfl | rfl | rfl
   · show 4 ≤ 7000; omega
   · omega
   · show 6 ≤ 7000; omega
   · omega
   · show 4 ≤ 7000; omega
   · omega
   · omega
  have z5 := qW hin
  have c6 := jX (ps := [⟨#[115, 116, 101, 112]⟩, y5 m.step, ⟨#[99, 108, 105, 101, 110, 116]⟩, y5 m.client, ⟨#[119, 105, 115, 104]⟩, y5 m.wish, opT m.op]) (by simp) (fun p hp => Nat.le_trans (hin p hp) (by omega))
  rw [e] at c6 z5
  simp only [List.length_cons, List.length_nil] at z5
  have c7 := aCI hrs
  have z6 := aC7 (aDT hrs)
  have e1 : (⟨#[58, 32]⟩ : ByteArray).size = 2 := rfl
  unfold aAA
  generalize mT3 m = R3 at *
  generalize kY m.res = R4 at *
  generalize y5 m.step = U1 at *
  generalize y5 m.client = U2 at *
  generalize y5 m.wish = U3 at *
  generalize opT m.op = U4 at *
  refine qrf Tryd.func45 Tryd.ntmps45 Tryd.results45 ?_; conv => whnf
  repeat ((first | refine qz ?_ | refine qc (c1) ?_); conv => whnf)
  refine .inr ⟨by kernel_rfl, wo (by kernel_rfl), ?_⟩
  repeat (first
   | refine yP (jS rfl rfl rfl) rfl rfl rfl (.inl rfl) (by kernel_rfl) ?_
   | refine yP (kK rfl rfl rfl rfl rfl rfl rfl) rfl rfl rfl (.inr rfl) (by kernel_rfl) ?_
   | refine xk (y7 c2 rfl rfl rfl trivial rfl rfl rfl) yx rfl rfl (by kernel_rfl) ?_
   | refine xk (y7 c3 rfl rfl rfl trivial rfl rfl rfl) yx rfl rfl (by kernel_rfl) ?_
   | refine xk (y7 c4 rfl rfl rfl trivial rfl rfl rfl) yx rfl rfl (by kernel_rfl) ?_
   | refine xk (y7 c5 rfl rfl rfl trivial rfl rfl rfl) yx rfl rfl (by kernel_rfl) ?_
   | refine xk (aBY [.const (.string ⟨#[115, 116, 101, 112]⟩), .tmp 10, .const (.string ⟨#[99, 108, 105, 101, 110, 116]⟩), .tmp 13, .const (.string ⟨#[119, 105, 115, 104]⟩), .tmp 16, .tmp 19] [.string ⟨#[115, 116, 101, 112]⟩, .string U1, .string ⟨#[99, 108, 105, 101, 110, 116]⟩, .string U2, .string ⟨#[119, 105, 115, 104]⟩, .string U3, .string U4] rfl rfl rfl rfl rfl rfl rfl (by intro c hc; simp only [List.mem_cons, List.not_mem_nil, or_false] at hc; rcases hc with rfl | rfl | rfl | rfl | rfl | rfl | rfl <;> rfl)) aDP rfl rfl (by kernel_rfl) ?_
   | refine xk (aAf c6 rfl ⟨by simp [yB, yg], qG⟩ trivial rfl rfl rfl) yx rfl rfl (by kernel_rfl) ?_
   | refine xk (jE rfl) wH rfl rfl (by kernel_rfl) ?_)
  refine qJ ?_
  conv => whnf
  repeat (first | (refine qz ?_; conv => whnf) | (refine qc (c7) ?_; conv => whnf) | (refine qp (xA (uL (by first | omega | (simp only [ByteArray.size_append]; omega))) rfl rfl rfl) ?_; conv => whnf) | (refine qdr ?_; conv => whnf))
  exact aC3 rfl rfl
theorem law_MomentTextP {m : Mom} (ho : m.op.ok maxLen) (hr : m.res.ok maxLen) : AC Tryd.prog 9 [vR m] ⟨.v (.bool true), []⟩ := aCS ho hr (aCH ho hr)
end Go.Proofs.YtodckioppgjbdaaDoor.AM
