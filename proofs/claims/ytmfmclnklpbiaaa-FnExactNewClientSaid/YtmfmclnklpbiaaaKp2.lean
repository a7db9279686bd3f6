/- Texts of the machine over data, folded. -/
import Derived.Test.YtmfmclnklpbiaaaKp1
import Derived.Test.YtmfmclnklpbiaaaKp9
import Derived.WalkSpells
import Derived.Test.YtmfmclnklpbiaaaKp8
import Derived.Test.YtmfmclnklpbiaaaKp7
namespace Go.Proofs.Ytmfmclnklpbiaaa
open Go.RowKit

theorem run_append_of_nil {P : Program} (w : World) (base : Nat) (t ty e : TypeId) (i : TypeInfo) (size : Nat) (ht : P.underlying t = some (.slice e)) (hi : P.info? e = some i)
    (v : Value) (n : Nat) (xs : List Value) (hown : w.ownsRow base e size v n xs) (c : Nat) : (Builtin.append_ #[t, t] ty #[v, .slice none 0 c]).run P w = .ok v w := by
  rcases hown.2 with ⟨rfl, rfl⟩ | ⟨g, cap, cur, rfl, _, _, hnc, _⟩
  · simp [Builtin.append_, run_underlying ht, sizeOf, typeInfo, hi, Builtin.lenOf, Builtin.firstCells]
  · simp [Builtin.append_, run_underlying ht, sizeOf, typeInfo, hi, Builtin.lenOf, Builtin.firstCells, hnc, storeCells]

theorem run_append_rd {P : Program} (w : World) (base : Nat) (t ty e : TypeId) (i : TypeInfo) (z : Value) (size bytes : Nat) (ht : P.underlying t = some (.slice e)) (hi : P.info? e = some i) (hz : i.zero = some z)
    (hsize : i.size = size) (hby : i.bytes = bytes) (hzs : z.cells.size = size) (hsz : 0 < size)
    (v : Value) (n : Nat) (xs : List Value) (hown : w.ownsRow base e size v n xs)
    (A : Option Addr) (m c : Nat) (news : List Value) (hr : Rd w size A m news) (h1 : ∀ u ∈ news, u.oneCell' = true)
    (hsmall : (n + m) * bytes ≤ 140737488355328) (hb1 : 1 ≤ bytes) (hbase : base ≤ w.heap.size) :
    ∃ v' w', (Builtin.append_ #[t, t] ty #[v, .slice A m c]).run P w = .ok v' w' ∧ w'.ownsRow base e size v' (n + m) (xs ++ news) ∧ w.grownBy w' v.ownBlock := by
  have h63 : n + m ≤ maxLen := by
    have : (n + m) * 1 ≤ (n + m) * bytes := Nat.mul_le_mul_left _ hb1
    unfold maxLen; omega
  rcases Nat.eq_zero_or_pos m with h0 | h0
  · subst h0
    have hn : news = [] := List.eq_nil_of_length_eq_zero (by simpa using hr.1)
    subst hn
    cases A with
    | none => exact ⟨v, w, run_append_of_nil w base t ty e i size ht hi v n xs hown c, by simpa using hown, World.grownBy.mk rfl rfl rfl (Nat.le_refl _) (fun _ _ _ => rfl)⟩
    | some ad =>
      obtain ⟨v', w', hrun, h2, h3, _⟩ := run_append_own (P := P) w base t ty e i z size bytes ht hi hz hsize hby hzs hsz v n xs hown ad 0 c [] (by simp) (by simp) (by simp) h63 hsmall hbase
      exact ⟨v', w', hrun, h2, h3⟩
  · obtain ⟨b, off, rfl, _, hc⟩ := hr.2 h0
    obtain ⟨v', w', hrun, h2, h3, _⟩ := run_append_own (P := P) w base t ty e i z size bytes ht hi hz hsize hby hzs hsz v n xs hown ⟨b, off, none⟩ m c news hr.1 (fun j u hu => by
      have hadd : (⟨b, off, none⟩ : Addr).add j = ⟨b, off + j, none⟩ := by unfold Addr.add; split <;> simp_all
      rw [hadd]; exact hc j u hu) h1 h63 hsmall hbase
    exact ⟨v', w', hrun, h2, h3⟩

theorem wpList_append_rd {P : Program} (w : World) {ops : Array Oper} {rest : List Oper} {o : Oper} {a : Act} {Q : Exit → Act → World → Prop} (hgd : o.guard = none) (s x : Operand) (t : TypeId)
    (ho : o.op = .call { callee := .builtin .append, args := #[s, x], argTypes := #[t, t] })
    (base : Nat) (e : TypeId) (i : TypeInfo) (z : Value) (size bytes : Nat) (ht : P.underlying t = some (.slice e)) (hi : P.info? e = some i) (hz : i.zero = some z)
    (hsize : i.size = size) (hby : i.bytes = bytes) (hzs : z.cells.size = size) (hsz : 0 < size)
    (v : Value) (n : Nat) (xs : List Value) (hs : a.eval s = v) (hown : w.ownsRow base e size v n xs)
    (A : Option Addr) (m c : Nat) (news : List Value) (hx : a.eval x = .slice A m c) (hr : Rd w size A m news) (h1 : ∀ u ∈ news, u.oneCell' = true)
    (hsmall : (n + m) * bytes ≤ 140737488355328) (hb1 : 1 ≤ bytes) (hbase : base ≤ w.heap.size)
    (h : ∀ v' w', w'.ownsRow base e size v' (n + m) (xs ++ news) → w.grownBy w' v.ownBlock → wpList P ops Q rest (a.put o.dst v') w') : wpList P ops Q (o :: rest) a w := by
  obtain ⟨v', w', hrun, h2, h3⟩ := run_append_rd (P := P) w base t o.type e i z size bytes ht hi hz hsize hby hzs hsz v n xs hown A m c news hr h1 hsmall hb1 hbase
  refine wpList_plain hgd fun K hK => ?_
  unfold Oper.wp execOp
  simp only [ho, resolve, invoke, builtin, Sem.run_bind, Sem.run_pure, Result.andThen_ok, List.map_toArray, List.map_cons, List.map_nil, hs, hx, hrun]
  exact hK _ _ (h v' w' h2 h3)

end Go.Proofs.Ytmfmclnklpbiaaa
namespace Go.Proofs.Ytmfmclnklpbiaaa
open Go Go.RowKit
set_option linter.unusedVariables false
set_option linter.unusedSimpArgs false
/-- what a clone of a list leaves: a row of its own that reads as the list -/
def OwnPostC (e : TypeId) (sz n : Nat) (cs : List Value) (w : World) (e' : Ending) (w' : World) : Prop := ∃ v, e' = .returned v ∧ w'.ownsRow w.heap.size e sz v n cs ∧ Below w.heap.size w w'
end Go.Proofs.Ytmfmclnklpbiaaa
namespace Go.Proofs.Ytmfmclnklpbiaaa.AM
open Go Go.RowKit
set_option linter.unusedVariables false
set_option linter.unusedSimpArgs false
section
variable {w : World}
end
end Go.Proofs.Ytmfmclnklpbiaaa.AM
namespace Go.Proofs.Ytmfmclnklpbiaaa.AM
open Go Go.RowKit Go.ChangeShapes Go.WideShapes Go.Deep
set_option linter.unusedVariables false
set_option linter.unusedSimpArgs false
structure Wsh where
  kind : Int
  name : ByteArray
  source : ByteArray
  key : ByteArray
  edits : List Edt
structure Mom where
  client : Int
  wish : Int
  step : Int
  op : Opr
  res : Rst
def wshA (w : Wsh) : AV := .agg [.v (.int .i64 w.kind), .v (.string w.name), .v (.string w.source), .v (.string w.key), .lst 3 (w.edits.map edtA)]
def Wsh.ok (o : Wsh) (N : Nat) : Prop := o.name.size ≤ N ∧ o.source.size ≤ N ∧ o.key.size ≤ N ∧ o.edits.length ≤ N ∧ ∀ e ∈ o.edits, e.key.size ≤ N
section
variable {S : Nat → Prop} {w : World}
/-- rows of elements of one size -/
theorem rl_flat {α : Type} (A : α → AV) : ∀ (l : List (α × List Value)), (∀ p ∈ l, RA S w (A p.1) p.2) → RL S w ((l.map (·.1)).map A) (l.flatMap (·.2))
  | [], _ => by simp only [List.map_nil, List.flatMap_nil]; exact rl_nil
  | p :: l, h => by
    simp only [List.map_cons, List.flatMap_cons]
    exact rl_cons (h p (by simp)) (rl_flat A l (fun q hq => h q (List.mem_cons_of_mem _ hq)))
theorem flat_at {α : Type} {m : Nat} (h0 : 0 < m) : ∀ (l : List (α × List Value)), (∀ p ∈ l, p.2.length = m) → ∀ (j : Nat) (u : Value), (l.flatMap (·.2))[j]? = some u → ∃ i r, ∃ hi : i < l.length, j = i * m + r ∧ r < m ∧ (l[i].2)[r]? = some u
  | [], _, j, u, h => by simp at h
  | p :: l, hl, j, u, h => by
    have hp := hl p (by simp)
    rw [List.flatMap_cons] at h
    by_cases hj : j < m
    · rw [List.getElem?_append_left (by omega)] at h
      exact ⟨0, j, by simp, by omega, hj, by simpa using h⟩
    · rw [List.getElem?_append_right (by omega), hp] at h
      obtain ⟨i, r, hi, e, hr, hu⟩ := flat_at h0 l (fun q hq => hl q (List.mem_cons_of_mem _ hq)) (j - m) u h
      refine ⟨i + 1, r, by simpa using hi, ?_, hr, by simpa using hu⟩
      rw [Nat.add_mul, Nat.one_mul]; omega
end
section
variable {H : Type} {enc : TypeId × Value → H} {P : Program} {w : World} {base : Nat} {held : Bool}
/-- a list, its elements opened one by one -/
theorem open_lst {α : Type} (A : α → AV) (ok : α → Prop) {m : Nat} {t e : TypeId} {v : Value} {k : Nat} {y : DataW H × List MemPlace} (ht : P.underlying t = some (.slice e)) (hC : P.cellsOf e = m) (h0 : 0 < m) (hA : ∀ x, asz (A x) = m)
    (hel : ∀ cs k y, DataW.trod enc P w base (fun _ => true) held k e cs = some y → ∃ x, RA (InW w) w (A x) cs ∧ ok x)
    (h : DataW.trod enc P w base (fun _ => true) held k t [v] = some y) : ∃ l : List α, RA (InW w) w (.lst m (l.map A)) [v] ∧ l.length ≤ maxLen ∧ ∀ x ∈ l, ok x := by
  rcases open_slice ht h with ⟨hcs, _⟩ | ⟨a, len, cap, m', n, D, Pl, hcs, hb, hl, hm, hmm, hx, hi⟩
  · exact ⟨[], by rw [hcs]; exact ra_nil h0, Nat.zero_le _, by simp⟩
  · rw [hcs]
    simp at hmm
    subst hmm
    rcases Nat.eq_zero_or_pos len with hz | hpos
    · subst hz
      refine ⟨[], ?_, Nat.zero_le _, by simp⟩
      simp only [List.map_nil]
      unfold RA
      exact ⟨_, _, rfl, Nat.zero_le _, hm, by simp, h0, .inl rfl⟩
    rw [hC] at hi
    have hall : ∀ i, i < len → ∃ p : α × List Value, (p.2.length = m ∧ RA (InW w) w (A p.1) p.2 ∧ ok p.1) ∧ ∀ r u, (p.2)[r]? = some u → w.cell? ((a.add (i * m)).add r) = some u := fun i hil => by
      obtain ⟨cs', hc, ht'⟩ := hi i (by omega)
      obtain ⟨x, hra, hok⟩ := hel _ _ _ ht'
      obtain ⟨_, hcl, hat⟩ := World.cells?_some hc
      refine ⟨(x, cs'), ⟨hcl, hra, hok⟩, fun r u hu => ?_⟩
      have hr : r < m := by rw [← hcl]; exact (List.getElem?_eq_some_iff.1 hu).1
      rw [hat r hr]; exact hu
    have hsz : ∀ i, i < len → ∃ u, w.cell? (a.add (i * m)) = some u := fun i hil => by
      obtain ⟨p, ⟨q1, _, _⟩, q4⟩ := hall i hil
      have := q4 0 (p.2[0]'(by omega)) (List.getElem?_eq_getElem (by omega))
      rw [add_zero_] at this
      exact ⟨_, this⟩
    obtain ⟨x0, hx0⟩ := hsz 0 hpos
    rw [Nat.zero_mul, add_zero_] at hx0
    have hsp := spot_of_cell hx0
    obtain ⟨b, off, sp⟩ := a
    simp at hsp
    subst hsp
    have hadd : ∀ j, (⟨b, off, none⟩ : Addr).add j = ⟨b, off + j, none⟩ := fun j => by unfold Addr.add; split <;> simp_all
    have hadd2 : ∀ i r, ((⟨b, off, none⟩ : Addr).add i).add r = ⟨b, off + (i + r), none⟩ := fun i r => by
      rw [hadd]; unfold Addr.add; split <;> simp_all [Nat.add_assoc]
    obtain ⟨l, hll, hq⟩ := list_of (α := α × List Value) len (fun i p => (p.2.length = m ∧ RA (InW w) w (A p.1) p.2 ∧ ok p.1) ∧ ∀ r u, (p.2)[r]? = some u → w.cell? ⟨b, off + (i * m + r), none⟩ = some u) (fun i hil => by
      obtain ⟨p, q1, q2⟩ := hall i hil
      exact ⟨p, q1, fun r u hu => by have := q2 r u hu; rwa [hadd2] at this⟩)
    have hmem : ∀ p ∈ l, p.2.length = m ∧ RA (InW w) w (A p.1) p.2 ∧ ok p.1 := fun p hp => by
      obtain ⟨i, hi', rfl⟩ := List.getElem_of_mem hp
      exact (hq i hi').1
    refine ⟨l.map (·.1), ?_, by rw [List.length_map]; omega, fun x hx => ?_⟩
    · unfold RA
      refine ⟨_, _, by rw [List.length_map, List.length_map, hll], by rw [List.length_map, List.length_map]; omega, hm, (fun x hx => by obtain ⟨y, _, rfl⟩ := List.mem_map.1 hx; exact hA y), h0, .inr ⟨b, off, _, rfl, World.block_lt_of_cell? w _ hx0, rl_flat A l (fun p hp => (hmem p hp).2.1), fun j u hu => ?_⟩⟩
      obtain ⟨i, r, hi', rfl, hr, hu'⟩ := flat_at h0 l (fun p hp => (hmem p hp).1) j u hu
      exact (hq i hi').2 r u hu'
    · obtain ⟨p, hp, rfl⟩ := List.mem_map.1 hx
      exact (hmem p hp).2.2
/-- an element that is a struct: it reads as its value does -/
theorem ra_of_agg {xs : List AV} {cs : List Value} (h : ∀ hp B V, RV (InW w) w hp B V (.agg xs) (.agg cs.toArray)) : RA (InW w) w (.agg xs) cs := by
  have := h (fun _ => none) (fun _ => 0) (fun _ => undef)
  unfold RV at this
  obtain ⟨us, e, hr⟩ := this
  have : us = cs := by
    have := congrArg (fun v => match v with | Value.agg a => a.toList | _ => []) e
    simpa using this.symm
  subst this
  exact ra_agg hr
theorem trod_agg {t : TypeId} {cs : List Value} {k : Nat} {y : DataW H × List MemPlace} (h : DataW.trod enc P w base (fun _ => true) held k t cs = some y) : DataW.Trod enc P w base (fun _ => true) held t (.agg cs.toArray) y.1 y.2 := ⟨k, by simpa [Value.cells] using h⟩
/-- a wish -/
theorem open_wsh {t : TypeId} {f0 f1 f2 f3 f4 g0 g1 g2 : Field} {ee : TypeId} {cs : Array Value} {d : DataW H} {p : List MemPlace} (ht : P.underlying t = some (.struct #[f0, f1, f2, f3, f4])) (hone : oneCellFields P #[f0, f1, f2, f3, f4] = true) (hC : P.cellsOf t = 5)
    (h0 : P.underlying f0.type = some (.int .i64)) (h1 : P.underlying f1.type = some .string) (h2 : P.underlying f2.type = some .string) (h3 : P.underlying f3.type = some .string) (h4 : P.underlying f4.type = some (.slice ee))
    (he : P.underlying ee = some (.struct #[g0, g1, g2])) (hone1 : oneCellFields P #[g0, g1, g2] = true) (hC1 : P.cellsOf ee = 3) (k0 : P.underlying g0.type = some .string) (k1 : P.underlying g1.type = some (.int .i64)) (k2 : P.underlying g2.type = some .bool)
    (h : DataW.Trod enc P w base (fun _ => true) held t (.agg cs) d p) : ∃ o : Wsh, (∀ hp B V, RV (InW w) w hp B V (wshA o) (.agg cs)) ∧ o.ok maxLen := by
  obtain ⟨hl, k, hk⟩ := open_agg ht hone hC h
  obtain ⟨v0, y0, c0, t0⟩ := hk 0 f0 rfl
  obtain ⟨v1, y1, c1, t1⟩ := hk 1 f1 rfl
  obtain ⟨v2, y2, c2, t2⟩ := hk 2 f2 rfl
  obtain ⟨v3, y3, c3, t3⟩ := hk 3 f3 rfl
  obtain ⟨v4, y4, c4, t4⟩ := hk 4 f4 rfl
  obtain ⟨x0, hx0, _, _⟩ := DataW.trod_int h0 t0
  obtain ⟨s1, hs1, _, hz1⟩ := DataW.trod_string h1 t1
  obtain ⟨s2, hs2, _, hz2⟩ := DataW.trod_string h2 t2
  obtain ⟨s3, hs3, _, hz3⟩ := DataW.trod_string h3 t3
  simp at hx0 hs1 hs2 hs3
  subst hx0 hs1 hs2 hs3
  obtain ⟨A1, n1, c1', rfl⟩ := one_slice h4 t4
  have T1 := trod_of rfl t4
  obtain ⟨es, hrd, hm, hks⟩ := open_edts h4 he hone1 hC1 k0 k1 k2 T1
  have hra := rv_edts (hp := fun _ => none) (B := fun _ => 0) (V := fun _ => undef) (open_cap h4 T1) hrd
  unfold RV at hra
  refine ⟨⟨x0, s1, s2, s3, es⟩, fun hp B V => ?_, hz1, hz2, hz3, Nat.le_trans (Nat.le_of_eq hrd.elen) hm, hks⟩
  exact rv_agg (list5 (by simpa using hl) c0 c1 c2 c3 c4) (rl_cons (c1 := [_]) (ra_v rfl) (rl_cons (c1 := [_]) (ra_v rfl) (rl_cons (c1 := [_]) (ra_v rfl) (rl_cons (c1 := [_]) (ra_v rfl) (rl_cons (c1 := [_]) hra rl_nil)))))
end
end Go.Proofs.Ytmfmclnklpbiaaa.AM
namespace Go.Proofs.Ytmfmclnklpbiaaa

/-- the keys and values of a list of edits -/
def kv (es : List Edt) : List Ent := es.map fun e => (e.key, e.val)
theorem kv_length (es : List Edt) : (kv es).length = es.length := by simp [kv]
theorem kAt_kv (es : List Edt) (k : Nat) (h : k < es.length) : kAt (kv es) k = es[k].key := by simp [kAt, kv, h]
theorem ordE_no (es : List Edt) (k : Nat) (h : k < es.length) (hn : nm es[k].key = false) : ordAt (kv es) k = false := by
  rw [ordAt, kAt_kv es k h, hn]; rfl
theorem ordE_zero (es : List Edt) (h : 0 < es.length) (hn : nm es[0].key = true) : ordAt (kv es) 0 = true := by
  rw [ordAt, kAt_kv es 0 h, hn]; rfl
theorem ordE_pos (es : List Edt) (k : Nat) (h0 : 0 < k) (h : k < es.length) (hn : nm es[k].key = true) : ordAt (kv es) k = klt (es[k - 1]'(by omega)).key es[k].key := by
  rw [ordAt, kAt_kv es k h, kAt_kv es (k - 1) (by omega), hn, decide_eq_false (by omega)]; simp
def edtB (e : Edt) : Bool := valB e.val && (!e.gone || decide (e.val = 0))
def edtAt (es : List Edt) (i : Nat) : Bool := edtB (es.getD i ⟨ByteArray.empty, 0, false⟩)
theorem edtAt_eq (es : List Edt) (k : Nat) (h : k < es.length) : edtAt es k = (valB es[k].val && (!es[k].gone || decide (es[k].val = 0))) := by simp [edtAt, edtB, h]
def edtsM (es : List Edt) : Bool := (List.range es.length).all (edtAt es)
def editsOK (es : List Edt) : Bool := decide (es.length ≤ 6) && (ordM (kv es) && edtsM es)
theorem edtsM_of {es : List Edt} (h : ∀ i, i < es.length → edtAt es i = true) : edtsM es = true := by
  rw [edtsM, List.all_eq_true]; intro i hi; exact h i (List.mem_range.1 hi)
theorem edtsM_not {es : List Edt} {i : Nat} (hi : i < es.length) (h : edtAt es i = false) : edtsM es = false := by
  rw [edtsM, List.all_eq_false]; exact ⟨i, List.mem_range.2 hi, by rw [h]; simp⟩
theorem editsOK_of {es : List Edt} (h0 : es.length ≤ 6) (h : ∀ i, i < es.length → ordAt (kv es) i = true ∧ edtAt es i = true) : editsOK es = true := by
  rw [editsOK, ordM_of (fun i hi => (h i (by rw [kv_length] at hi; exact hi)).1), edtsM_of fun i hi => (h i hi).2, decide_eq_true h0]; rfl
theorem editsOK_noOrd {es : List Edt} {i : Nat} (hi : i < es.length) (h : ordAt (kv es) i = false) : editsOK es = false := by
  rw [editsOK, ordM_not (by rw [kv_length]; exact hi) h]; simp
theorem editsOK_noEdt {es : List Edt} {i : Nat} (hi : i < es.length) (h : edtAt es i = false) : editsOK es = false := by
  rw [editsOK, edtsM_not hi h]; simp
theorem editsOK_long {es : List Edt} (h : 6 < es.length) : editsOK es = false := by
  rw [editsOK, decide_eq_false (by omega)]; rfl
theorem gone_three (g : Bool) (v : Int) : (g = true ∧ v ≠ 0) ∨ g = false ∨ (g = true ∧ v = 0) := by
  cases g <;> by_cases h : v = 0 <;> simp [h]

end Go.Proofs.Ytmfmclnklpbiaaa
namespace Go.Proofs.Ytmfmclnklpbiaaa
open Go.RowKit

set_option maxHeartbeats 4000000 in
set_option maxRecDepth 100000 in
theorem l01Edits_any (A : Option Addr) (n c : Nat) (es : List Edt) (w : World) (hr : Rd w 3 A n (edtsC es)) (hm : n ≤ maxLen) (hks : ∀ e ∈ es, e.key.size ≤ maxLen) :
    Calls Try.prog 109 #[.slice A n c] w fun e w' => e = .returned (.bool (editsOK es)) ∧ Below w.heap.size w w' := by
  unfold maxLen at hm
  have hlen := hr.elen
  have Hlen := Lib.hid hlen; clear hlen
  by_cases hbig : 6 < n
  · have hfin : Hid (editsOK es = false) := editsOK_long (by rw [Hlen.out]; exact hbig)
    go_enter Try.func109, Try.ntmps109
    go_wp2
    go_ret
    exact ⟨ret_bool hfin.out.symm, Below.refl _ _⟩
  have hn6 : n ≤ 6 := by omega
  clear hbig
  go_enter Try.func109, Try.ntmps109
  go_wp2
  go_loopw [3] (fun i wr => ∃ k : Nat, k ≤ n ∧ i = .int .i64 k ∧ (∀ j, j < k → ordAt (kv es) j = true ∧ edtAt es j = true) ∧ Below w.heap.size w wr) (fun i _ => n - (intOf i).toNat)
  case atStart => exact ⟨0, Nat.zero_le _, rfl, fun j hj => absurd hj (by omega), Below.refl _ _⟩
  case round =>
    obtain ⟨k, hk, rfl, hall, hb⟩ := hrel
    have Hall := Lib.hid hall; clear hall
    by_cases hlt : k < n
    · have hke : k < es.length := by rw [Hlen.out]; exact hlt
      obtain ⟨b, off, rfl, hbl, hbl2, hc1, hc2, hc3⟩ := hr.edt hb hke
      have hsz := hks _ (List.getElem_mem hke)
      have hnoO := ordE_no es k hke
      have hE := edtAt_eq es k hke
      have hz0 : k = 0 → nm es[k].key = true → ordAt (kv es) k = true := by rintro rfl h; exact ordE_zero es hke h
      have hp0 : (h : 0 < k) → nm es[k].key = true → ordAt (kv es) k = klt (es[k - 1]'(by omega)).key es[k].key := fun h h2 => ordE_pos es k h hke h2
      generalize es[k] = ek at *
      obtain ⟨k1, v1, g1⟩ := ek
      simp only at hc1 hc2 hc3 hsz hnoO hE hz0 hp0
      have hcall := fun W => l00Word_any k1 W hsz
      have hcall2 := fun W => l01In_any v1 (-1000000) 1000000 W
      change ∀ W, Calls _ _ _ W fun e w' => e = .returned (.bool (nm k1)) ∧ W = w' at hcall
      change ∀ W, Calls _ _ _ W fun e w' => e = .returned (.bool (valB v1)) ∧ W = w' at hcall2
      cases hw : nm k1 with
      | false =>
        have hfin : Hid (editsOK es = false) := editsOK_noOrd hke (hnoO hw)
        rw [hw] at hcall
        have Hcall := Lib.hid hcall
        clear hw hcall hcall2 hE hnoO hz0 hp0
        go_wp2
        have hcL0 : (wr.alloc (Obj.cells #[Value.string k1, Value.int IntKind.i64 v1, Value.bool g1] 124)).cell? ⟨wr.heap.size, 0, none⟩ = some (.string k1) := cell_of_row _ _ _ _ _ (0, 0) (heap_alloc_new wr _)
        have hcL1 : (wr.alloc (Obj.cells #[Value.string k1, Value.int IntKind.i64 v1, Value.bool g1] 124)).cell? ⟨wr.heap.size, 1, none⟩ = some (.int .i64 v1) := cell_of_row _ _ _ _ _ (0, 0) (heap_alloc_new wr _)
        have hcL2 : (wr.alloc (Obj.cells #[Value.string k1, Value.int IntKind.i64 v1, Value.bool g1] 124)).cell? ⟨wr.heap.size, 2, none⟩ = some (.bool g1) := cell_of_row _ _ _ _ _ (0, 0) (heap_alloc_new wr _)
        have hpl : wr.heap.size < (wr.alloc (Obj.cells #[Value.string k1, Value.int IntKind.i64 v1, Value.bool g1] 124)).heap.size := by simp
        have hb2 : Below w.heap.size w (wr.alloc (Obj.cells #[Value.string k1, Value.int IntKind.i64 v1, Value.bool g1] 124)) := hb.alloc hb.size _
        generalize wr.alloc (Obj.cells #[Value.string k1, Value.int IntKind.i64 v1, Value.bool g1] 124) = w2 at *
        generalize wr.heap.size = p at *
        have hA0 := fun y : Aft w2 => y.cell hpl hcL0
        have hA1 := fun y : Aft w2 => y.cell hpl hcL1
        have hA2 := fun y : Aft w2 => y.cell hpl hcL2
        refine wp_region_after (by kernel_rfl) (by kernel_rfl) ?_
        repeat (go_big_quiet_step ((first | (go_at_call 39; exact Aft.same (Hcall.out _)))))
        refine wpQuiet_nil ?_
        rintro _ ⟨y, rfl⟩
        have hb3 := keepS hb2 y.below
        generalize y.at_ = w3 at *
        go_wp2
        go_ret
        exact ⟨ret_bool hfin.out.symm, hb3⟩
      | true =>
      cases hv : valB v1 with
      | false =>
        have hfin : Hid (editsOK es = false) := editsOK_noEdt hke (by rw [hE, hv]; rfl)
        rw [hw] at hcall
        rw [hv] at hcall2
        have Hcall := Lib.hid hcall
        have Hcall2 := Lib.hid hcall2
        clear hw hv hcall hcall2 hE hnoO hz0 hp0
        go_wp2
        have hcL0 : (wr.alloc (Obj.cells #[Value.string k1, Value.int IntKind.i64 v1, Value.bool g1] 124)).cell? ⟨wr.heap.size, 0, none⟩ = some (.string k1) := cell_of_row _ _ _ _ _ (0, 0) (heap_alloc_new wr _)
        have hcL1 : (wr.alloc (Obj.cells #[Value.string k1, Value.int IntKind.i64 v1, Value.bool g1] 124)).cell? ⟨wr.heap.size, 1, none⟩ = some (.int .i64 v1) := cell_of_row _ _ _ _ _ (0, 0) (heap_alloc_new wr _)
        have hcL2 : (wr.alloc (Obj.cells #[Value.string k1, Value.int IntKind.i64 v1, Value.bool g1] 124)).cell? ⟨wr.heap.size, 2, none⟩ = some (.bool g1) := cell_of_row _ _ _ _ _ (0, 0) (heap_alloc_new wr _)
        have hpl : wr.heap.size < (wr.alloc (Obj.cells #[Value.string k1, Value.int IntKind.i64 v1, Value.bool g1] 124)).heap.size := by simp
        have hb2 : Below w.heap.size w (wr.alloc (Obj.cells #[Value.string k1, Value.int IntKind.i64 v1, Value.bool g1] 124)) := hb.alloc hb.size _
        generalize wr.alloc (Obj.cells #[Value.string k1, Value.int IntKind.i64 v1, Value.bool g1] 124) = w2 at *
        generalize wr.heap.size = p at *
        have hA0 := fun y : Aft w2 => y.cell hpl hcL0
        have hA1 := fun y : Aft w2 => y.cell hpl hcL1
        have hA2 := fun y : Aft w2 => y.cell hpl hcL2
        refine wp_region_after (by kernel_rfl) (by kernel_rfl) ?_
        repeat (go_big_quiet_step ((first | (go_at_call 39; exact Aft.same (Hcall.out _)) | (go_at_call 77; exact Aft.same (Hcall2.out _)))))
        refine wpQuiet_nil ?_
        rintro _ ⟨y, rfl⟩
        have hb3 := keepS hb2 y.below
        generalize y.at_ = w3 at *
        go_wp2
        go_ret
        exact ⟨ret_bool hfin.out.symm, hb3⟩
      | true =>
      rw [hw] at hcall
      rw [hv] at hcall2
      rcases gone_three g1 v1 with ⟨rfl, hne⟩ | hgood
      · have hfin : Hid (editsOK es = false) := editsOK_noEdt hke (by rw [hE, hv, decide_eq_false hne]; rfl)
        have hne2 : (v1 != 0) = true := by simpa using hne
        have Hcall := Lib.hid hcall
        have Hcall2 := Lib.hid hcall2
        clear hw hv hcall hcall2 hE hnoO hz0 hp0
        go_wp2
        have hcL0 : (wr.alloc (Obj.cells #[Value.string k1, Value.int IntKind.i64 v1, Value.bool true] 124)).cell? ⟨wr.heap.size, 0, none⟩ = some (.string k1) := cell_of_row _ _ _ _ _ (0, 0) (heap_alloc_new wr _)
        have hcL1 : (wr.alloc (Obj.cells #[Value.string k1, Value.int IntKind.i64 v1, Value.bool true] 124)).cell? ⟨wr.heap.size, 1, none⟩ = some (.int .i64 v1) := cell_of_row _ _ _ _ _ (0, 0) (heap_alloc_new wr _)
        have hcL2 : (wr.alloc (Obj.cells #[Value.string k1, Value.int IntKind.i64 v1, Value.bool true] 124)).cell? ⟨wr.heap.size, 2, none⟩ = some (.bool true) := cell_of_row _ _ _ _ _ (0, 0) (heap_alloc_new wr _)
        have hpl : wr.heap.size < (wr.alloc (Obj.cells #[Value.string k1, Value.int IntKind.i64 v1, Value.bool true] 124)).heap.size := by simp
        have hb2 : Below w.heap.size w (wr.alloc (Obj.cells #[Value.string k1, Value.int IntKind.i64 v1, Value.bool true] 124)) := hb.alloc hb.size _
        generalize wr.alloc (Obj.cells #[Value.string k1, Value.int IntKind.i64 v1, Value.bool true] 124) = w2 at *
        generalize wr.heap.size = p at *
        have hA0 := fun y : Aft w2 => y.cell hpl hcL0
        have hA1 := fun y : Aft w2 => y.cell hpl hcL1
        have hA2 := fun y : Aft w2 => y.cell hpl hcL2
        refine wp_region_after (by kernel_rfl) (by kernel_rfl) ?_
        repeat (go_big_quiet_step ((first | (go_at_call 39; exact Aft.same (Hcall.out _)) | (go_at_call 77; exact Aft.same (Hcall2.out _)))))
        refine wpQuiet_nil ?_
        rintro _ ⟨y, rfl⟩
        have hb3 := keepS hb2 y.below
        generalize y.at_ = w3 at *
        go_wp2
        go_ret
        exact ⟨ret_bool hfin.out.symm, hb3⟩
      have hE1 : Hid (edtAt es k = true) := by
        rcases hgood with rfl | ⟨rfl, rfl⟩
        · show edtAt es k = true; rw [hE, hv]; rfl
        · show edtAt es k = true; rw [hE, hv]; rfl
      clear hE hv hnoO
      by_cases hk0 : k = 0
      · have ho := hz0 hk0 hw
        subst hk0
        have hstep : Hid (∀ j, j < 0 + 1 → ordAt (kv es) j = true ∧ edtAt es j = true) := fun j hj => by
          have : j = 0 := by omega
          subst this; exact ⟨ho, hE1.out⟩
        simp only [Nat.zero_mul, Nat.add_zero] at hc1 hc2 hc3
        clear hz0 hp0 ho hw
        rcases hgood with rfl | ⟨rfl, rfl⟩
        · have Hcall := Lib.hid hcall
          have Hcall2 := Lib.hid hcall2
          clear hcall hcall2
          go_wp2
          have hcL0 : (wr.alloc (Obj.cells #[Value.string k1, Value.int IntKind.i64 v1, Value.bool false] 124)).cell? ⟨wr.heap.size, 0, none⟩ = some (.string k1) := cell_of_row _ _ _ _ _ (0, 0) (heap_alloc_new wr _)
          have hcL1 : (wr.alloc (Obj.cells #[Value.string k1, Value.int IntKind.i64 v1, Value.bool false] 124)).cell? ⟨wr.heap.size, 1, none⟩ = some (.int .i64 v1) := cell_of_row _ _ _ _ _ (0, 0) (heap_alloc_new wr _)
          have hcL2 : (wr.alloc (Obj.cells #[Value.string k1, Value.int IntKind.i64 v1, Value.bool false] 124)).cell? ⟨wr.heap.size, 2, none⟩ = some (.bool false) := cell_of_row _ _ _ _ _ (0, 0) (heap_alloc_new wr _)
          have hpl : wr.heap.size < (wr.alloc (Obj.cells #[Value.string k1, Value.int IntKind.i64 v1, Value.bool false] 124)).heap.size := by simp
          have hb2 : Below w.heap.size w (wr.alloc (Obj.cells #[Value.string k1, Value.int IntKind.i64 v1, Value.bool false] 124)) := hb.alloc hb.size _
          generalize wr.alloc (Obj.cells #[Value.string k1, Value.int IntKind.i64 v1, Value.bool false] 124) = w2 at *
          generalize wr.heap.size = p at *
          have hA0 := fun y : Aft w2 => y.cell hpl hcL0
          have hA1 := fun y : Aft w2 => y.cell hpl hcL1
          have hA2 := fun y : Aft w2 => y.cell hpl hcL2
          refine wp_region_after (by kernel_rfl) (by kernel_rfl) ?_
          repeat (go_big_quiet_step ((first | (go_at_call 39; exact Aft.same (Hcall.out _)) | (go_at_call 77; exact Aft.same (Hcall2.out _)))))
          refine wpQuiet_nil ?_
          rintro _ ⟨y, rfl⟩
          have hb3 := keepS hb2 y.below
          generalize y.at_ = w3 at *
          go_wp2
          go_roundw
          case rel => exact ⟨0 + 1, by omega, by go_num, hstep.out, hb3⟩
          case measure => simp [intOf]; omega
        · have Hcall := Lib.hid hcall
          have Hcall2 := Lib.hid hcall2
          clear hcall hcall2
          go_wp2
          have hcL0 : (wr.alloc (Obj.cells #[Value.string k1, Value.int IntKind.i64 0, Value.bool true] 124)).cell? ⟨wr.heap.size, 0, none⟩ = some (.string k1) := cell_of_row _ _ _ _ _ (0, 0) (heap_alloc_new wr _)
          have hcL1 : (wr.alloc (Obj.cells #[Value.string k1, Value.int IntKind.i64 0, Value.bool true] 124)).cell? ⟨wr.heap.size, 1, none⟩ = some (.int .i64 0) := cell_of_row _ _ _ _ _ (0, 0) (heap_alloc_new wr _)
          have hcL2 : (wr.alloc (Obj.cells #[Value.string k1, Value.int IntKind.i64 0, Value.bool true] 124)).cell? ⟨wr.heap.size, 2, none⟩ = some (.bool true) := cell_of_row _ _ _ _ _ (0, 0) (heap_alloc_new wr _)
          have hpl : wr.heap.size < (wr.alloc (Obj.cells #[Value.string k1, Value.int IntKind.i64 0, Value.bool true] 124)).heap.size := by simp
          have hb2 : Below w.heap.size w (wr.alloc (Obj.cells #[Value.string k1, Value.int IntKind.i64 0, Value.bool true] 124)) := hb.alloc hb.size _
          generalize wr.alloc (Obj.cells #[Value.string k1, Value.int IntKind.i64 0, Value.bool true] 124) = w2 at *
          generalize wr.heap.size = p at *
          have hA0 := fun y : Aft w2 => y.cell hpl hcL0
          have hA1 := fun y : Aft w2 => y.cell hpl hcL1
          have hA2 := fun y : Aft w2 => y.cell hpl hcL2
          refine wp_region_after (by kernel_rfl) (by kernel_rfl) ?_
          repeat (go_big_quiet_step ((first | (go_at_call 39; exact Aft.same (Hcall.out _)) | (go_at_call 77; exact Aft.same (Hcall2.out _)))))
          refine wpQuiet_nil ?_
          rintro _ ⟨y, rfl⟩
          have hb3 := keepS hb2 y.below
          generalize y.at_ = w3 at *
          go_wp2
          go_roundw
          case rel => exact ⟨0 + 1, by omega, by go_num, hstep.out, hb3⟩
          case measure => simp [intOf]; omega
      · have hkp : 0 < k := by omega
        have hor := hp0 hkp hw
        have ht : (Op.bytesLess k1.toList (es[k - 1]'(by omega)).key.toList || k1.toList == (es[k - 1]'(by omega)).key.toList) = !ordAt (kv es) k := by rw [kle_eq, hor]
        have hi0 : 0 ≤ (k : Int) - 1 := by omega
        have hi1 : ((k : Int) - 1).toNat = k - 1 := by omega
        have hi2 : (0 : Int) < (k : Int) := by omega
        clear hk0 hor hw hz0 hp0
        cases ho : ordAt (kv es) k with
        | false =>
          have hfin : Hid (editsOK es = false) := editsOK_noOrd hke ho
          rw [ho] at ht
          clear ho
          rcases hgood with rfl | ⟨rfl, rfl⟩
          · have Hcall := Lib.hid hcall
            have Hcall2 := Lib.hid hcall2
            clear hcall hcall2
            go_wp2
            have hcL0 : (wr.alloc (Obj.cells #[Value.string k1, Value.int IntKind.i64 v1, Value.bool false] 124)).cell? ⟨wr.heap.size, 0, none⟩ = some (.string k1) := cell_of_row _ _ _ _ _ (0, 0) (heap_alloc_new wr _)
            have hcL1 : (wr.alloc (Obj.cells #[Value.string k1, Value.int IntKind.i64 v1, Value.bool false] 124)).cell? ⟨wr.heap.size, 1, none⟩ = some (.int .i64 v1) := cell_of_row _ _ _ _ _ (0, 0) (heap_alloc_new wr _)
            have hcL2 : (wr.alloc (Obj.cells #[Value.string k1, Value.int IntKind.i64 v1, Value.bool false] 124)).cell? ⟨wr.heap.size, 2, none⟩ = some (.bool false) := cell_of_row _ _ _ _ _ (0, 0) (heap_alloc_new wr _)
            have hpl : wr.heap.size < (wr.alloc (Obj.cells #[Value.string k1, Value.int IntKind.i64 v1, Value.bool false] 124)).heap.size := by simp
            have hb2 : Below w.heap.size w (wr.alloc (Obj.cells #[Value.string k1, Value.int IntKind.i64 v1, Value.bool false] 124)) := hb.alloc hb.size _
            obtain ⟨b', off', he, _, _, hc4, _, _⟩ := hr.edt hb2 (show k - 1 < es.length by omega)
            obtain ⟨rfl, rfl⟩ : b = b' ∧ off = off' := by simpa using he
            have hbl4 := Nat.lt_of_lt_of_le hbl hb2.size
            generalize wr.alloc (Obj.cells #[Value.string k1, Value.int IntKind.i64 v1, Value.bool false] 124) = w2 at *
            generalize wr.heap.size = p at *
            have hA0 := fun y : Aft w2 => y.cell hpl hcL0
            have hA1 := fun y : Aft w2 => y.cell hpl hcL1
            have hA2 := fun y : Aft w2 => y.cell hpl hcL2
            have hA4 := fun y : Aft w2 => y.cell hbl4 hc4
            refine wp_region_after (by kernel_rfl) (by kernel_rfl) ?_
            repeat (go_big_quiet_step ((first | (go_at_call 39; exact Aft.same (Hcall.out _)) | (go_at_call 77; exact Aft.same (Hcall2.out _)))))
            refine wpQuiet_nil ?_
            rintro _ ⟨y, rfl⟩
            have hb3 := keepS hb2 y.below
            generalize y.at_ = w3 at *
            go_wp2
            go_ret
            exact ⟨ret_bool hfin.out.symm, hb3⟩
          · have Hcall := Lib.hid hcall
            have Hcall2 := Lib.hid hcall2
            clear hcall hcall2
            go_wp2
            have hcL0 : (wr.alloc (Obj.cells #[Value.string k1, Value.int IntKind.i64 0, Value.bool true] 124)).cell? ⟨wr.heap.size, 0, none⟩ = some (.string k1) := cell_of_row _ _ _ _ _ (0, 0) (heap_alloc_new wr _)
            have hcL1 : (wr.alloc (Obj.cells #[Value.string k1, Value.int IntKind.i64 0, Value.bool true] 124)).cell? ⟨wr.heap.size, 1, none⟩ = some (.int .i64 0) := cell_of_row _ _ _ _ _ (0, 0) (heap_alloc_new wr _)
            have hcL2 : (wr.alloc (Obj.cells #[Value.string k1, Value.int IntKind.i64 0, Value.bool true] 124)).cell? ⟨wr.heap.size, 2, none⟩ = some (.bool true) := cell_of_row _ _ _ _ _ (0, 0) (heap_alloc_new wr _)
            have hpl : wr.heap.size < (wr.alloc (Obj.cells #[Value.string k1, Value.int IntKind.i64 0, Value.bool true] 124)).heap.size := by simp
            have hb2 : Below w.heap.size w (wr.alloc (Obj.cells #[Value.string k1, Value.int IntKind.i64 0, Value.bool true] 124)) := hb.alloc hb.size _
            obtain ⟨b', off', he, _, _, hc4, _, _⟩ := hr.edt hb2 (show k - 1 < es.length by omega)
            obtain ⟨rfl, rfl⟩ : b = b' ∧ off = off' := by simpa using he
            have hbl4 := Nat.lt_of_lt_of_le hbl hb2.size
            generalize wr.alloc (Obj.cells #[Value.string k1, Value.int IntKind.i64 0, Value.bool true] 124) = w2 at *
            generalize wr.heap.size = p at *
            have hA0 := fun y : Aft w2 => y.cell hpl hcL0
            have hA1 := fun y : Aft w2 => y.cell hpl hcL1
            have hA2 := fun y : Aft w2 => y.cell hpl hcL2
            have hA4 := fun y : Aft w2 => y.cell hbl4 hc4
            refine wp_region_after (by kernel_rfl) (by kernel_rfl) ?_
            repeat (go_big_quiet_step ((first | (go_at_call 39; exact Aft.same (Hcall.out _)) | (go_at_call 77; exact Aft.same (Hcall2.out _)))))
            refine wpQuiet_nil ?_
            rintro _ ⟨y, rfl⟩
            have hb3 := keepS hb2 y.below
            generalize y.at_ = w3 at *
            go_wp2
            go_ret
            exact ⟨ret_bool hfin.out.symm, hb3⟩
        | true =>
          have hstep : Hid (∀ j, j < k + 1 → ordAt (kv es) j = true ∧ edtAt es j = true) := fun j hj => by
            rcases Nat.lt_or_ge j k with h | h
            · exact Hall.out j h
            · have : j = k := by omega
              subst this; exact ⟨ho, hE1.out⟩
          rw [ho] at ht
          clear ho
          rcases hgood with rfl | ⟨rfl, rfl⟩
          · have Hcall := Lib.hid hcall
            have Hcall2 := Lib.hid hcall2
            clear hcall hcall2
            go_wp2
            have hcL0 : (wr.alloc (Obj.cells #[Value.string k1, Value.int IntKind.i64 v1, Value.bool false] 124)).cell? ⟨wr.heap.size, 0, none⟩ = some (.string k1) := cell_of_row _ _ _ _ _ (0, 0) (heap_alloc_new wr _)
            have hcL1 : (wr.alloc (Obj.cells #[Value.string k1, Value.int IntKind.i64 v1, Value.bool false] 124)).cell? ⟨wr.heap.size, 1, none⟩ = some (.int .i64 v1) := cell_of_row _ _ _ _ _ (0, 0) (heap_alloc_new wr _)
            have hcL2 : (wr.alloc (Obj.cells #[Value.string k1, Value.int IntKind.i64 v1, Value.bool false] 124)).cell? ⟨wr.heap.size, 2, none⟩ = some (.bool false) := cell_of_row _ _ _ _ _ (0, 0) (heap_alloc_new wr _)
            have hpl : wr.heap.size < (wr.alloc (Obj.cells #[Value.string k1, Value.int IntKind.i64 v1, Value.bool false] 124)).heap.size := by simp
            have hb2 : Below w.heap.size w (wr.alloc (Obj.cells #[Value.string k1, Value.int IntKind.i64 v1, Value.bool false] 124)) := hb.alloc hb.size _
            obtain ⟨b', off', he, _, _, hc4, _, _⟩ := hr.edt hb2 (show k - 1 < es.length by omega)
            obtain ⟨rfl, rfl⟩ : b = b' ∧ off = off' := by simpa using he
            have hbl4 := Nat.lt_of_lt_of_le hbl hb2.size
            generalize wr.alloc (Obj.cells #[Value.string k1, Value.int IntKind.i64 v1, Value.bool false] 124) = w2 at *
            generalize wr.heap.size = p at *
            have hA0 := fun y : Aft w2 => y.cell hpl hcL0
            have hA1 := fun y : Aft w2 => y.cell hpl hcL1
            have hA2 := fun y : Aft w2 => y.cell hpl hcL2
            have hA4 := fun y : Aft w2 => y.cell hbl4 hc4
            refine wp_region_after (by kernel_rfl) (by kernel_rfl) ?_
            repeat (go_big_quiet_step ((first | (go_at_call 39; exact Aft.same (Hcall.out _)) | (go_at_call 77; exact Aft.same (Hcall2.out _)))))
            refine wpQuiet_nil ?_
            rintro _ ⟨y, rfl⟩
            have hb3 := keepS hb2 y.below
            generalize y.at_ = w3 at *
            go_wp2
            go_roundw
            case rel => exact ⟨k + 1, by omega, by go_num, hstep.out, hb3⟩
            case measure => simp [intOf]; omega
          · have Hcall := Lib.hid hcall
            have Hcall2 := Lib.hid hcall2
            clear hcall hcall2
            go_wp2
            have hcL0 : (wr.alloc (Obj.cells #[Value.string k1, Value.int IntKind.i64 0, Value.bool true] 124)).cell? ⟨wr.heap.size, 0, none⟩ = some (.string k1) := cell_of_row _ _ _ _ _ (0, 0) (heap_alloc_new wr _)
            have hcL1 : (wr.alloc (Obj.cells #[Value.string k1, Value.int IntKind.i64 0, Value.bool true] 124)).cell? ⟨wr.heap.size, 1, none⟩ = some (.int .i64 0) := cell_of_row _ _ _ _ _ (0, 0) (heap_alloc_new wr _)
            have hcL2 : (wr.alloc (Obj.cells #[Value.string k1, Value.int IntKind.i64 0, Value.bool true] 124)).cell? ⟨wr.heap.size, 2, none⟩ = some (.bool true) := cell_of_row _ _ _ _ _ (0, 0) (heap_alloc_new wr _)
            have hpl : wr.heap.size < (wr.alloc (Obj.cells #[Value.string k1, Value.int IntKind.i64 0, Value.bool true] 124)).heap.size := by simp
            have hb2 : Below w.heap.size w (wr.alloc (Obj.cells #[Value.string k1, Value.int IntKind.i64 0, Value.bool true] 124)) := hb.alloc hb.size _
            obtain ⟨b', off', he, _, _, hc4, _, _⟩ := hr.edt hb2 (show k - 1 < es.length by omega)
            obtain ⟨rfl, rfl⟩ : b = b' ∧ off = off' := by simpa using he
            have hbl4 := Nat.lt_of_lt_of_le hbl hb2.size
            generalize wr.alloc (Obj.cells #[Value.string k1, Value.int IntKind.i64 0, Value.bool true] 124) = w2 at *
            generalize wr.heap.size = p at *
            have hA0 := fun y : Aft w2 => y.cell hpl hcL0
            have hA1 := fun y : Aft w2 => y.cell hpl hcL1
            have hA2 := fun y : Aft w2 => y.cell hpl hcL2
            have hA4 := fun y : Aft w2 => y.cell hbl4 hc4
            refine wp_region_after (by kernel_rfl) (by kernel_rfl) ?_
            repeat (go_big_quiet_step ((first | (go_at_call 39; exact Aft.same (Hcall.out _)) | (go_at_call 77; exact Aft.same (Hcall2.out _)))))
            refine wpQuiet_nil ?_
            rintro _ ⟨y, rfl⟩
            have hb3 := keepS hb2 y.below
            generalize y.at_ = w3 at *
            go_wp2
            go_roundw
            case rel => exact ⟨k + 1, by omega, by go_num, hstep.out, hb3⟩
            case measure => simp [intOf]; omega
    · have hfin : Hid (editsOK es = true) := editsOK_of (by rw [Hlen.out]; exact hn6) (fun i hi => Hall.out i (by rw [Hlen.out] at hi; omega))
      go_wp2
      go_ret
      exact ⟨ret_bool hfin.out.symm, hb⟩

end Go.Proofs.Ytmfmclnklpbiaaa
namespace Go.Proofs.Ytmfmclnklpbiaaa
open Go.RowKit

theorem method_keyE (a : ByteArray) (x : Int) (g : Bool) (w : World) : (method 258 124 (.agg #[.string a, .int .i64 x, .bool g]) "loop.example/g00737/impl.key").run Try.prog w = .ok (133, .agg #[.string a, .int .i64 x, .bool g]) w := by kernel_rfl
theorem keyOfE_any (key : ByteArray) (v : Int) (g : Bool) (w : World) :
    Calls Try.prog 133 #[.agg #[.string key, .int .i64 v, .bool g]] w fun e w' => e = .returned (.string key) ∧ Below w.heap.size w w' := by
  go_enter Try.func133, Try.ntmps133
  go_wp2
  go_ret
  exact ⟨rfl, (Below.refl _ _).alloc (Nat.le_refl _) _⟩
theorem nameOK_edt (es : List Edt) (k : Nat) (hke : k < es.length) (hs : es[k].key.size ≤ maxLen) (W : World) :
    Calls Try.prog 43 #[.string es[k].key] W fun e w' => e = .returned (.bool (nm es[k].key)) ∧ W = w' := nameOK_any _ W hs
set_option maxHeartbeats 2000000 in
set_option maxRecDepth 100000 in
theorem inOrderE_any (A : Option Addr) (n c : Nat) (es : List Edt) (w : World) (hr : Rd w 3 A n (edtsC es)) (hm : n ≤ maxLen) (hks : ∀ e ∈ es, e.key.size ≤ maxLen) :
    Calls Try.prog 116 #[.slice A n c] w fun e w' => e = .returned (.bool (ordM (kv es))) ∧ Below w.heap.size w w' := by
  unfold maxLen at hm
  have hlen := hr.elen
  have Hlen := Lib.hid hlen; clear hlen
  have hmeth := method_keyE
  go_enter Try.func116, Try.ntmps116
  go_wp2
  go_loopw [3, 7] (fun _ i wr => ∃ k : Nat, k ≤ n ∧ i = .int .i64 k ∧ (∀ j, j < k → ordAt (kv es) j = true) ∧ Below w.heap.size w wr) (fun _ i _ => n - (intOf i).toNat)
  case atStart => exact ⟨0, Nat.zero_le _, rfl, fun j hj => absurd hj (by omega), Below.refl _ _⟩
  case round =>
    obtain ⟨k, hk, rfl, hall, hb⟩ := hrel
    have Hall := Lib.hid hall; clear hall
    by_cases hlt : k < n
    · have hke : k < es.length := by rw [Hlen.out]; exact hlt
      obtain ⟨b, off, rfl, hbl, hbl2, hc1, hc2, hc5⟩ := hr.edt hb hke
      have hcall := nameOK_edt es k hke (hks _ (List.getElem_mem hke))
      cases hw : nm es[k].key with
      | false =>
        have hfin : Hid (ordM (kv es) = false) := ordM_not (by rw [kv_length]; exact hke) (ordE_no es k hke hw)
        rw [hw] at hcall
        have Hcall := Lib.hid hcall
        clear hw hcall
        go_wp2
        have hcL0 : (wr.alloc (Obj.cells #[Value.string es[k].key, Value.int IntKind.i64 es[k].val, Value.bool es[k].gone] 124)).cell? ⟨wr.heap.size, 0, none⟩ = some (.string es[k].key) := cell_of_row _ _ _ _ _ (0, 0) (heap_alloc_new wr _)
        have hcL1 : (wr.alloc (Obj.cells #[Value.string es[k].key, Value.int IntKind.i64 es[k].val, Value.bool es[k].gone] 124)).cell? ⟨wr.heap.size, 1, none⟩ = some (.int .i64 es[k].val) := cell_of_row _ _ _ _ _ (0, 0) (heap_alloc_new wr _)
        have hcL2 : (wr.alloc (Obj.cells #[Value.string es[k].key, Value.int IntKind.i64 es[k].val, Value.bool es[k].gone] 124)).cell? ⟨wr.heap.size, 2, none⟩ = some (.bool es[k].gone) := cell_of_row _ _ _ _ _ (0, 0) (heap_alloc_new wr _)
        have hpl : wr.heap.size < (wr.alloc (Obj.cells #[Value.string es[k].key, Value.int IntKind.i64 es[k].val, Value.bool es[k].gone] 124)).heap.size := by simp
        have hb2 : Below w.heap.size w (wr.alloc (Obj.cells #[Value.string es[k].key, Value.int IntKind.i64 es[k].val, Value.bool es[k].gone] 124)) := hb.alloc hb.size _
        generalize wr.alloc (Obj.cells #[Value.string es[k].key, Value.int IntKind.i64 es[k].val, Value.bool es[k].gone] 124) = w2 at *
        generalize wr.heap.size = p at *
        have hA0 := fun y : Aft w2 => y.cell hpl hcL0
        have hA1 := fun y : Aft w2 => y.cell hpl hcL1
        have hA2 := fun y : Aft w2 => y.cell hpl hcL2
        refine wp_region_after (by kernel_rfl) (by kernel_rfl) ?_
        repeat (go_big_quiet_step ((first | (go_at_call 133; exact Aft.call (keyOfE_any _ _ _ _)) | (go_at_call 43; exact Aft.same (Hcall.out _)))))
        refine wpQuiet_nil ?_
        rintro _ ⟨y, rfl⟩
        have hb3 := keepS hb2 y.below
        generalize y.at_ = w3 at *
        go_wp2
        go_ret
        exact ⟨ret_bool hfin.out.symm, hb3⟩
      | true =>
      rw [hw] at hcall
      have Hcall := Lib.hid hcall
      clear hcall
      by_cases hk0 : k = 0
      · subst hk0
        have hstep : Hid (∀ j, j < 0 + 1 → ordAt (kv es) j = true) := fun j hj => by
          have : j = 0 := by omega
          subst this; exact ordE_zero es hke hw
        clear hw
        simp only [Nat.zero_mul, Nat.add_zero] at hc1 hc2 hc5
        go_wp2
        have hcL0 : (wr.alloc (Obj.cells #[Value.string es[0].key, Value.int IntKind.i64 es[0].val, Value.bool es[0].gone] 124)).cell? ⟨wr.heap.size, 0, none⟩ = some (.string es[0].key) := cell_of_row _ _ _ _ _ (0, 0) (heap_alloc_new wr _)
        have hcL1 : (wr.alloc (Obj.cells #[Value.string es[0].key, Value.int IntKind.i64 es[0].val, Value.bool es[0].gone] 124)).cell? ⟨wr.heap.size, 1, none⟩ = some (.int .i64 es[0].val) := cell_of_row _ _ _ _ _ (0, 0) (heap_alloc_new wr _)
        have hcL2 : (wr.alloc (Obj.cells #[Value.string es[0].key, Value.int IntKind.i64 es[0].val, Value.bool es[0].gone] 124)).cell? ⟨wr.heap.size, 2, none⟩ = some (.bool es[0].gone) := cell_of_row _ _ _ _ _ (0, 0) (heap_alloc_new wr _)
        have hpl : wr.heap.size < (wr.alloc (Obj.cells #[Value.string es[0].key, Value.int IntKind.i64 es[0].val, Value.bool es[0].gone] 124)).heap.size := by simp
        have hb2 : Below w.heap.size w (wr.alloc (Obj.cells #[Value.string es[0].key, Value.int IntKind.i64 es[0].val, Value.bool es[0].gone] 124)) := hb.alloc hb.size _
        generalize wr.alloc (Obj.cells #[Value.string es[0].key, Value.int IntKind.i64 es[0].val, Value.bool es[0].gone] 124) = w2 at *
        generalize wr.heap.size = p at *
        have hA0 := fun y : Aft w2 => y.cell hpl hcL0
        have hA1 := fun y : Aft w2 => y.cell hpl hcL1
        have hA2 := fun y : Aft w2 => y.cell hpl hcL2
        refine wp_region_after (by kernel_rfl) (by kernel_rfl) ?_
        repeat (go_big_quiet_step ((first | (go_at_call 133; exact Aft.call (keyOfE_any _ _ _ _)) | (go_at_call 43; exact Aft.same (Hcall.out _)))))
        refine wpQuiet_nil ?_
        rintro _ ⟨y, rfl⟩
        have hb3 := keepS hb2 y.below
        generalize y.at_ = w3 at *
        go_wp2
        go_roundw
        case rel => exact ⟨0 + 1, by omega, by go_num, hstep.out, hb3⟩
        case measure => simp [intOf]; omega
      · have hkp : 0 < k := by omega
        have hor := ordE_pos es k hkp hke hw
        have ht : (!(Op.bytesLess (es[k - 1]'(by omega)).key.toList es[k].key.toList)) = !ordAt (kv es) k := by rw [hor]; rfl
        have hi0 : 0 ≤ (k : Int) - 1 := by omega
        have hi1 : ((k : Int) - 1).toNat = k - 1 := by omega
        have hi2 : (0 : Int) < (k : Int) := by omega
        clear hk0 hor hw
        cases ho : ordAt (kv es) k with
        | false =>
          have hfin : Hid (ordM (kv es) = false) := ordM_not (by rw [kv_length]; exact hke) ho
          rw [ho] at ht
          clear ho
          go_wp2
          have hcL0 : (wr.alloc (Obj.cells #[Value.string es[k].key, Value.int IntKind.i64 es[k].val, Value.bool es[k].gone] 124)).cell? ⟨wr.heap.size, 0, none⟩ = some (.string es[k].key) := cell_of_row _ _ _ _ _ (0, 0) (heap_alloc_new wr _)
          have hcL1 : (wr.alloc (Obj.cells #[Value.string es[k].key, Value.int IntKind.i64 es[k].val, Value.bool es[k].gone] 124)).cell? ⟨wr.heap.size, 1, none⟩ = some (.int .i64 es[k].val) := cell_of_row _ _ _ _ _ (0, 0) (heap_alloc_new wr _)
          have hcL2 : (wr.alloc (Obj.cells #[Value.string es[k].key, Value.int IntKind.i64 es[k].val, Value.bool es[k].gone] 124)).cell? ⟨wr.heap.size, 2, none⟩ = some (.bool es[k].gone) := cell_of_row _ _ _ _ _ (0, 0) (heap_alloc_new wr _)
          have hpl : wr.heap.size < (wr.alloc (Obj.cells #[Value.string es[k].key, Value.int IntKind.i64 es[k].val, Value.bool es[k].gone] 124)).heap.size := by simp
          have hb2 : Below w.heap.size w (wr.alloc (Obj.cells #[Value.string es[k].key, Value.int IntKind.i64 es[k].val, Value.bool es[k].gone] 124)) := hb.alloc hb.size _
          obtain ⟨b', off', he, _, _, hc3, hc4, hc6⟩ := hr.edt hb2 (show k - 1 < es.length by omega)
          obtain ⟨rfl, rfl⟩ : b = b' ∧ off = off' := by simpa using he
          have hbl4 := Nat.lt_of_lt_of_le hbl hb2.size
          generalize wr.alloc (Obj.cells #[Value.string es[k].key, Value.int IntKind.i64 es[k].val, Value.bool es[k].gone] 124) = w2 at *
          generalize wr.heap.size = p at *
          have hA0 := fun y : Aft w2 => y.cell hpl hcL0
          have hA1 := fun y : Aft w2 => y.cell hpl hcL1
          have hA2 := fun y : Aft w2 => y.cell hpl hcL2
          have hA3 := fun y : Aft w2 => y.cell hbl4 hc3
          have hA4 := fun y : Aft w2 => y.cell hbl4 hc4
          have hA5 := fun y : Aft w2 => y.cell hbl4 hc6
          refine wp_region_after (by kernel_rfl) (by kernel_rfl) ?_
          repeat (go_big_quiet_step ((first | (go_at_call 133; exact Aft.call (keyOfE_any _ _ _ _)) | (go_at_call 43; exact Aft.same (Hcall.out _)))))
          refine wpQuiet_nil ?_
          rintro _ ⟨y, rfl⟩
          have hb3 := keepS hb2 y.below
          generalize y.at_ = w3 at *
          go_wp2
          go_ret
          exact ⟨ret_bool hfin.out.symm, hb3⟩
        | true =>
          have hstep : Hid (∀ j, j < k + 1 → ordAt (kv es) j = true) := fun j hj => by
            rcases Nat.lt_or_ge j k with h | h
            · exact Hall.out j h
            · have : j = k := by omega
              subst this; exact ho
          rw [ho] at ht
          clear ho
          go_wp2
          have hcL0 : (wr.alloc (Obj.cells #[Value.string es[k].key, Value.int IntKind.i64 es[k].val, Value.bool es[k].gone] 124)).cell? ⟨wr.heap.size, 0, none⟩ = some (.string es[k].key) := cell_of_row _ _ _ _ _ (0, 0) (heap_alloc_new wr _)
          have hcL1 : (wr.alloc (Obj.cells #[Value.string es[k].key, Value.int IntKind.i64 es[k].val, Value.bool es[k].gone] 124)).cell? ⟨wr.heap.size, 1, none⟩ = some (.int .i64 es[k].val) := cell_of_row _ _ _ _ _ (0, 0) (heap_alloc_new wr _)
          have hcL2 : (wr.alloc (Obj.cells #[Value.string es[k].key, Value.int IntKind.i64 es[k].val, Value.bool es[k].gone] 124)).cell? ⟨wr.heap.size, 2, none⟩ = some (.bool es[k].gone) := cell_of_row _ _ _ _ _ (0, 0) (heap_alloc_new wr _)
          have hpl : wr.heap.size < (wr.alloc (Obj.cells #[Value.string es[k].key, Value.int IntKind.i64 es[k].val, Value.bool es[k].gone] 124)).heap.size := by simp
          have hb2 : Below w.heap.size w (wr.alloc (Obj.cells #[Value.string es[k].key, Value.int IntKind.i64 es[k].val, Value.bool es[k].gone] 124)) := hb.alloc hb.size _
          obtain ⟨b', off', he, _, _, hc3, hc4, hc6⟩ := hr.edt hb2 (show k - 1 < es.length by omega)
          obtain ⟨rfl, rfl⟩ : b = b' ∧ off = off' := by simpa using he
          have hbl4 := Nat.lt_of_lt_of_le hbl hb2.size
          generalize wr.alloc (Obj.cells #[Value.string es[k].key, Value.int IntKind.i64 es[k].val, Value.bool es[k].gone] 124) = w2 at *
          generalize wr.heap.size = p at *
          have hA0 := fun y : Aft w2 => y.cell hpl hcL0
          have hA1 := fun y : Aft w2 => y.cell hpl hcL1
          have hA2 := fun y : Aft w2 => y.cell hpl hcL2
          have hA3 := fun y : Aft w2 => y.cell hbl4 hc3
          have hA4 := fun y : Aft w2 => y.cell hbl4 hc4
          have hA5 := fun y : Aft w2 => y.cell hbl4 hc6
          refine wp_region_after (by kernel_rfl) (by kernel_rfl) ?_
          repeat (go_big_quiet_step ((first | (go_at_call 133; exact Aft.call (keyOfE_any _ _ _ _)) | (go_at_call 43; exact Aft.same (Hcall.out _)))))
          refine wpQuiet_nil ?_
          rintro _ ⟨y, rfl⟩
          have hb3 := keepS hb2 y.below
          generalize y.at_ = w3 at *
          go_wp2
          go_roundw
          case rel => exact ⟨k + 1, by omega, by go_num, hstep.out, hb3⟩
          case measure => simp [intOf]; omega
    · have hfin : Hid (ordM (kv es) = true) := ordM_of (fun i hi => Hall.out i (by rw [kv_length, Hlen.out] at hi; omega))
      go_wp2
      go_ret
      exact ⟨ret_bool hfin.out.symm, hb⟩

set_option maxHeartbeats 2000000 in
set_option maxRecDepth 100000 in
theorem implEditsOK_any (A : Option Addr) (n c : Nat) (es : List Edt) (w : World) (hr : Rd w 3 A n (edtsC es)) (hm : n ≤ maxLen) (hks : ∀ e ∈ es, e.key.size ≤ maxLen) :
    Calls Try.prog 115 #[.slice A n c] w fun e w' => e = .returned (.bool (editsOK es)) ∧ Below w.heap.size w w' := by
  have hm' := hm
  unfold maxLen at hm
  have hlen := hr.elen
  have Hlen := Lib.hid hlen; clear hlen
  by_cases hbig : 6 < n
  · have hfin : Hid (editsOK es = false) := editsOK_long (by rw [Hlen.out]; exact hbig)
    go_enter Try.func115, Try.ntmps115
    go_wp2
    go_ret
    exact ⟨ret_bool hfin.out.symm, Below.refl _ _⟩
  have hn6 : n ≤ 6 := by omega
  clear hbig
  cases ho : ordM (kv es) with
  | false =>
    have hfin : Hid (editsOK es = false) := by show editsOK es = false; rw [editsOK, ho]; simp
    have hcall := inOrderE_any A n c es w hr hm' hks
    rw [ho] at hcall
    have Hcall := Lib.hid hcall
    clear ho hcall
    go_enter Try.func115, Try.ntmps115
    go_wp2_with (go_at_call 116; refine Hcall.out.mono ?_; rintro e w1 ⟨rfl, hb1⟩)
    go_ret
    exact ⟨ret_bool hfin.out.symm, hb1⟩
  | true =>
    have hcall := inOrderE_any A n c es w hr hm' hks
    rw [ho] at hcall
    have Hcall := Lib.hid hcall
    have Ho := Lib.hid ho
    clear ho hcall
    go_enter Try.func115, Try.ntmps115
    go_wp2_with (go_at_call 116; refine Hcall.out.mono ?_; rintro e w1 ⟨rfl, hb1⟩)
    go_loopw [15] (fun i wr => ∃ k : Nat, k ≤ n ∧ i = .int .i64 k ∧ (∀ j, j < k → edtAt es j = true) ∧ Below w.heap.size w wr) (fun i _ => n - (intOf i).toNat)
    case atStart => exact ⟨0, Nat.zero_le _, rfl, fun j hj => absurd hj (by omega), hb1⟩
    case round =>
      obtain ⟨k, hk, rfl, hall, hb⟩ := hrel
      have Hall := Lib.hid hall; clear hall
      by_cases hlt : k < n
      · have hke : k < es.length := by rw [Hlen.out]; exact hlt
        obtain ⟨b, off, rfl, hbl, hbl2, hc1, hc2, hc3⟩ := hr.edt hb hke
        have hE := edtAt_eq es k hke
        generalize es[k] = ek at *
        obtain ⟨k1, v1, g1⟩ := ek
        simp only at hc1 hc2 hc3 hE
        have hcall := fun W => valueOK_any v1 W
        change ∀ W, Calls _ _ _ W fun e w' => e = .returned (.bool (valB v1)) ∧ W = w' at hcall
        cases hv : valB v1 with
        | false =>
          have hfin : Hid (editsOK es = false) := editsOK_noEdt hke (by rw [hE, hv]; rfl)
          rw [hv] at hcall
          have Hcall := Lib.hid hcall
          clear hv hcall hE
          go_wp2_with (go_at_call 117; refine (Hcall.out _).mono ?_; rintro e w1 ⟨rfl, rfl⟩)
          go_ret
          exact ⟨ret_bool hfin.out.symm, hb.alloc hb.size _⟩
        | true =>
          rw [hv] at hcall
          rcases gone_three g1 v1 with ⟨rfl, hne⟩ | hgood
          · have hfin : Hid (editsOK es = false) := editsOK_noEdt hke (by rw [hE, hv, decide_eq_false hne]; rfl)
            have hne2 : (v1 != 0) = true := by simpa using hne
            have Hcall := Lib.hid hcall
            clear hv hcall hE
            go_wp2_with (go_at_call 117; refine (Hcall.out _).mono ?_; rintro e w1 ⟨rfl, rfl⟩)
            go_ret
            exact ⟨ret_bool hfin.out.symm, hb.alloc hb.size _⟩
          have hE1 : Hid (edtAt es k = true) := by
            rcases hgood with rfl | ⟨rfl, rfl⟩
            · show edtAt es k = true; rw [hE, hv]; rfl
            · show edtAt es k = true; rw [hE, hv]; rfl
          have hstep : Hid (∀ j, j < k + 1 → edtAt es j = true) := fun j hj => by
            rcases Nat.lt_or_ge j k with h | h
            · exact Hall.out j h
            · have : j = k := by omega
              subst this; exact hE1.out
          clear hE hv
          rcases hgood with rfl | ⟨rfl, rfl⟩
          · have Hcall := Lib.hid hcall
            clear hcall
            go_wp2_with (go_at_call 117; refine (Hcall.out _).mono ?_; rintro e w1 ⟨rfl, rfl⟩)
            go_roundw
            case rel => exact ⟨k + 1, by omega, by go_num, hstep.out, hb.alloc hb.size _⟩
            case measure => simp [intOf]; omega
          · have Hcall := Lib.hid hcall
            clear hcall
            go_wp2_with (go_at_call 117; refine (Hcall.out _).mono ?_; rintro e w1 ⟨rfl, rfl⟩)
            go_roundw
            case rel => exact ⟨k + 1, by omega, by go_num, hstep.out, hb.alloc hb.size _⟩
            case measure => simp [intOf]; omega
      · have hfin : Hid (editsOK es = true) := editsOK_of (by rw [Hlen.out]; exact hn6) (fun i hi => ⟨ordM_at Ho.out (by rw [kv_length]; exact hi), Hall.out i (by rw [Hlen.out] at hi; omega)⟩)
        go_wp2
        go_ret
        exact ⟨ret_bool hfin.out.symm, hb⟩

end Go.Proofs.Ytmfmclnklpbiaaa
/- Whether edits are valid, over data, both sides. -/
namespace Go.Proofs.Ytmfmclnklpbiaaa.AM
open Go Go.RowKit
set_option linter.unusedVariables false
set_option linter.unusedSimpArgs false
theorem ent_109 : ∀ vs w, (callFunc 109 vs).run Try.prog w = .ok (.enter 109 vs) w := ent_of Try.func109 (by kernel_rfl) (by kernel_rfl)
theorem ac_sEdts {es : List Edt} {b : Bool} (hb : editsOK es = b) (hm : es.length ≤ maxLen) (hk : ∀ e ∈ es, e.key.size ≤ maxLen) : AC Try.prog 109 [.lst 3 (es.map edtA)] ⟨.v (.bool b), []⟩ :=
  hb ▸ ac_val ent_109 rfl fun w S0 vs hS hv => by
    obtain ⟨u, rfl, h1⟩ := rvs1 hv
    obtain ⟨A, c, rfl, _, _, hr⟩ := arg_edts hS h1
    exact l01Edits_any A es.length c es w hr hm hk
theorem ent_115 : ∀ vs w, (callFunc 115 vs).run Try.prog w = .ok (.enter 115 vs) w := ent_of Try.func115 (by kernel_rfl) (by kernel_rfl)
theorem ac_iEdts {es : List Edt} {b : Bool} (hb : editsOK es = b) (hm : es.length ≤ maxLen) (hk : ∀ e ∈ es, e.key.size ≤ maxLen) : AC Try.prog 115 [.lst 3 (es.map edtA)] ⟨.v (.bool b), []⟩ :=
  hb ▸ ac_val ent_115 rfl fun w S0 vs hS hv => by
    obtain ⟨u, rfl, h1⟩ := rvs1 hv
    obtain ⟨A, c, rfl, _, _, hr⟩ := arg_edts hS h1
    exact implEditsOK_any A es.length c es w hr hm hk
end Go.Proofs.Ytmfmclnklpbiaaa.AM
/- Operations: sizes, copies, comparison; OpOK on both sides; its law over data. -/
namespace Go.Proofs.Ytmfmclnklpbiaaa.AM
open Go Go.RowKit
set_option linter.unusedVariables false
set_option linter.unusedSimpArgs false
set_option maxRecDepth 100000
theorem b_eqd {P : Program} {t : TypeId} {x y : Operand} {k : IntKind} {a b : Int} : BinOK P .eql t x y (.int k a) (.int k b) (.bool (decide (a = b))) := by
  by_cases h : a = b
  · rw [decide_eq_true h]; exact b_eq_t h
  · rw [decide_eq_false h]; exact b_eq_f h
theorem b_seqd {P : Program} {t : TypeId} {x y : Operand} {a b : ByteArray} : BinOK P .eql t x y (.string a) (.string b) (.bool (decide (a = b))) := by
  by_cases h : a = b
  · rw [decide_eq_true h]; exact b_seq_t h
  · rw [decide_eq_false h]; exact b_seq_f h
abbrev eB : ByteArray := ⟨#[]⟩
def opB (o : Opr) : Bool :=
  okN o.name && (if o.kind = 1 ∨ o.kind = 4 then decide (1 ≤ o.frm ∧ o.frm ≤ 60) && (decide (o.key = eB) && decide (o.edits.length = 0))
   else if o.kind = 3 then decide (0 ≤ o.frm ∧ o.frm ≤ 60) && (decide (o.key = eB) && editsOK o.edits)
   else if o.kind = 5 then decide (o.frm = 0) && (okN o.key && decide (o.edits.length = 0))
   else if o.kind = 2 ∨ o.kind = 6 then decide (o.frm = 0) && (decide (o.key = eB) && decide (o.edits.length = 0))
   else false)
theorem editsOK_nil {es : List Edt} (h : es.length = 0) : editsOK es = true := by
  have := List.eq_nil_of_length_eq_zero h
  subst this; rfl
attribute [local irreducible] ACode AOps AOps2 RetG RetM Pre ACG
end Go.Proofs.Ytmfmclnklpbiaaa.AM
namespace Go.Proofs.Ytmfmclnklpbiaaa.AM
open Go Go.RowKit
set_option linter.unusedVariables false
set_option linter.unusedSimpArgs false
set_option maxRecDepth 100000
attribute [local irreducible] ACode AOps AOps2 RetG RetM Pre ACG
set_option maxHeartbeats 4000000 in
theorem ac_iOp1 {frm : Int} {nm key : ByteArray} {es : List Edt} (q1 : nm.size ≤ maxLen) (q2 : key.size ≤ maxLen) (q3 : es.length ≤ maxLen) (q4 : ∀ e ∈ es, e.key.size ≤ maxLen) (hn : okN nm = true) : AC Try.prog 112 [.agg [.v (.int .i64 1), .v (.int .i64 frm), .v (.string nm), .v (.string key), .lst 3 (es.map edtA)]] ⟨.v (.bool (opB ⟨1, frm, nm, key, es⟩)), []⟩ := by
  have q3' := q3
  unfold maxLen at q3'
  refine r_of Th_ok (by kernel_rfl) Try.func112 rfl Try.ntmps112 Try.results112 (by kernel_rfl) rfl ?_; conv => whnf
  repeat (first | (refine qc (ac_nameOK q1 hn) rfl ?_; conv => whnf) | ((first | refine qb rfl rfl ?_ | refine qi (by assumption) rfl rfl ?_ | refine ql rfl ?_ | refine qo rfl rfl ?_ | refine qs rfl rfl ?_ | refine qn rfl rfl ?_); conv => whnf))
  (refine .inl (And.intro (by kernel_rfl) ?_); conv => whnf)
  by_cases hf : 1 ≤ frm ∧ frm ≤ 60
  case neg =>
    rw [show opB _ = false from by simp [opB, hn, hf]]
    as_aux_lemma =>
      repeat (first | (refine qc (ac_nameOK q1 hn) rfl ?_; conv => whnf) | (refine qc (ac_headOK_f hf) rfl ?_; conv => whnf) | (refine r_put (p_bin (b_sne_t (by assumption)) rfl rfl rfl) rfl rfl ?_; conv => whnf) | (refine r_put (p_bin (b_sne_f (by assumption)) rfl rfl rfl) rfl rfl ?_; conv => whnf) | (refine r_put (p_bin (b_seq_t (by assumption)) rfl rfl rfl) rfl rfl ?_; conv => whnf) | (refine r_put (p_bin (b_seq_f (by assumption)) rfl rfl rfl) rfl rfl ?_; conv => whnf) | ((first | refine qb rfl rfl ?_ | refine qi (by assumption) rfl rfl ?_ | refine ql rfl ?_ | refine qo rfl rfl ?_ | refine qs rfl rfl ?_ | refine qn rfl rfl ?_); conv => whnf) | (refine r_put (p_bin b_eqd rfl rfl rfl) rfl rfl ?_; conv => whnf) | (refine r_put (p_bin b_seqd rfl rfl rfl) rfl rfl ?_; conv => whnf))
      exact r_ret1 rfl trivial
  by_cases hk : key = eB
  case neg =>
    rw [show opB _ = false from by simp [opB, hn, hf, hk]]
    as_aux_lemma =>
      repeat (first | (refine qc (ac_nameOK q1 hn) rfl ?_; conv => whnf) | (refine qc (ac_headOK_t hf.1 hf.2) rfl ?_; conv => whnf) | (refine r_put (p_bin (b_sne_t (by assumption)) rfl rfl rfl) rfl rfl ?_; conv => whnf) | (refine r_put (p_bin (b_sne_f (by assumption)) rfl rfl rfl) rfl rfl ?_; conv => whnf) | (refine r_put (p_bin (b_seq_t (by assumption)) rfl rfl rfl) rfl rfl ?_; conv => whnf) | (refine r_put (p_bin (b_seq_f (by assumption)) rfl rfl rfl) rfl rfl ?_; conv => whnf) | ((first | refine qb rfl rfl ?_ | refine qi (by assumption) rfl rfl ?_ | refine ql rfl ?_ | refine qo rfl rfl ?_ | refine qs rfl rfl ?_ | refine qn rfl rfl ?_); conv => whnf) | (refine r_put (p_bin b_eqd rfl rfl rfl) rfl rfl ?_; conv => whnf) | (refine r_put (p_bin b_seqd rfl rfl rfl) rfl rfl ?_; conv => whnf))
      exact r_ret1 rfl trivial
  by_cases he : es.length = 0
  case neg =>
    rw [show opB _ = false from by simp [opB, hn, hf, hk, he]]
    as_aux_lemma =>
      repeat (first | (refine qc (ac_nameOK q1 hn) rfl ?_; conv => whnf) | (refine qc (ac_headOK_t hf.1 hf.2) rfl ?_; conv => whnf) | (refine r_put (p_bin (b_sne_t (by assumption)) rfl rfl rfl) rfl rfl ?_; conv => whnf) | (refine r_put (p_bin (b_sne_f (by assumption)) rfl rfl rfl) rfl rfl ?_; conv => whnf) | (refine r_put (p_bin (b_seq_t (by assumption)) rfl rfl rfl) rfl rfl ?_; conv => whnf) | (refine r_put (p_bin (b_seq_f (by assumption)) rfl rfl rfl) rfl rfl ?_; conv => whnf) | ((first | refine qb rfl rfl ?_ | refine qi (by assumption) rfl rfl ?_ | refine ql rfl ?_ | refine qo rfl rfl ?_ | refine qs rfl rfl ?_ | refine qn rfl rfl ?_); conv => whnf) | (refine r_put (p_bin b_eqd rfl rfl rfl) rfl rfl ?_; conv => whnf) | (refine r_put (p_bin b_seqd rfl rfl rfl) rfl rfl ?_; conv => whnf))
      exact r_ret1 rfl trivial
  rw [show opB _ = true from by simp [opB, hn, hf, hk, he]]
  as_aux_lemma =>
    repeat (first | (refine qc (ac_nameOK q1 hn) rfl ?_; conv => whnf) | (refine qc (ac_headOK_t hf.1 hf.2) rfl ?_; conv => whnf) | (refine r_put (p_bin (b_sne_t (by assumption)) rfl rfl rfl) rfl rfl ?_; conv => whnf) | (refine r_put (p_bin (b_sne_f (by assumption)) rfl rfl rfl) rfl rfl ?_; conv => whnf) | (refine r_put (p_bin (b_seq_t (by assumption)) rfl rfl rfl) rfl rfl ?_; conv => whnf) | (refine r_put (p_bin (b_seq_f (by assumption)) rfl rfl rfl) rfl rfl ?_; conv => whnf) | ((first | refine qb rfl rfl ?_ | refine qi (by assumption) rfl rfl ?_ | refine ql rfl ?_ | refine qo rfl rfl ?_ | refine qs rfl rfl ?_ | refine qn rfl rfl ?_); conv => whnf) | (refine r_put (p_bin b_eqd rfl rfl rfl) rfl rfl ?_; conv => whnf) | (refine r_put (p_bin b_seqd rfl rfl rfl) rfl rfl ?_; conv => whnf))
    exact r_ret1 rfl trivial
set_option maxHeartbeats 4000000 in
theorem ac_iOp4 {frm : Int} {nm key : ByteArray} {es : List Edt} (q1 : nm.size ≤ maxLen) (q2 : key.size ≤ maxLen) (q3 : es.length ≤ maxLen) (q4 : ∀ e ∈ es, e.key.size ≤ maxLen) (hn : okN nm = true) : AC Try.prog 112 [.agg [.v (.int .i64 4), .v (.int .i64 frm), .v (.string nm), .v (.string key), .lst 3 (es.map edtA)]] ⟨.v (.bool (opB ⟨4, frm, nm, key, es⟩)), []⟩ := by
  have q3' := q3
  unfold maxLen at q3'
  refine r_of Th_ok (by kernel_rfl) Try.func112 rfl Try.ntmps112 Try.results112 (by kernel_rfl) rfl ?_; conv => whnf
  repeat (first | (refine qc (ac_nameOK q1 hn) rfl ?_; conv => whnf) | ((first | refine qb rfl rfl ?_ | refine qi (by assumption) rfl rfl ?_ | refine ql rfl ?_ | refine qo rfl rfl ?_ | refine qs rfl rfl ?_ | refine qn rfl rfl ?_); conv => whnf))
  (refine .inl (And.intro (by kernel_rfl) ?_); conv => whnf)
  by_cases hf : 1 ≤ frm ∧ frm ≤ 60
  case neg =>
    rw [show opB _ = false from by simp [opB, hn, hf]]
    as_aux_lemma =>
      repeat (first | (refine qc (ac_nameOK q1 hn) rfl ?_; conv => whnf) | (refine qc (ac_headOK_f hf) rfl ?_; conv => whnf) | (refine r_put (p_bin (b_sne_t (by assumption)) rfl rfl rfl) rfl rfl ?_; conv => whnf) | (refine r_put (p_bin (b_sne_f (by assumption)) rfl rfl rfl) rfl rfl ?_; conv => whnf) | (refine r_put (p_bin (b_seq_t (by assumption)) rfl rfl rfl) rfl rfl ?_; conv => whnf) | (refine r_put (p_bin (b_seq_f (by assumption)) rfl rfl rfl) rfl rfl ?_; conv => whnf) | ((first | refine qb rfl rfl ?_ | refine qi (by assumption) rfl rfl ?_ | refine ql rfl ?_ | refine qo rfl rfl ?_ | refine qs rfl rfl ?_ | refine qn rfl rfl ?_); conv => whnf) | (refine r_put (p_bin b_eqd rfl rfl rfl) rfl rfl ?_; conv => whnf) | (refine r_put (p_bin b_seqd rfl rfl rfl) rfl rfl ?_; conv => whnf))
      exact r_ret1 rfl trivial
  by_cases hk : key = eB
  case neg =>
    rw [show opB _ = false from by simp [opB, hn, hf, hk]]
    as_aux_lemma =>
      repeat (first | (refine qc (ac_nameOK q1 hn) rfl ?_; conv => whnf) | (refine qc (ac_headOK_t hf.1 hf.2) rfl ?_; conv => whnf) | (refine r_put (p_bin (b_sne_t (by assumption)) rfl rfl rfl) rfl rfl ?_; conv => whnf) | (refine r_put (p_bin (b_sne_f (by assumption)) rfl rfl rfl) rfl rfl ?_; conv => whnf) | (refine r_put (p_bin (b_seq_t (by assumption)) rfl rfl rfl) rfl rfl ?_; conv => whnf) | (refine r_put (p_bin (b_seq_f (by assumption)) rfl rfl rfl) rfl rfl ?_; conv => whnf) | ((first | refine qb rfl rfl ?_ | refine qi (by assumption) rfl rfl ?_ | refine ql rfl ?_ | refine qo rfl rfl ?_ | refine qs rfl rfl ?_ | refine qn rfl rfl ?_); conv => whnf) | (refine r_put (p_bin b_eqd rfl rfl rfl) rfl rfl ?_; conv => whnf) | (refine r_put (p_bin b_seqd rfl rfl rfl) rfl rfl ?_; conv => whnf))
      exact r_ret1 rfl trivial
  by_cases he : es.length = 0
  case neg =>
    rw [show opB _ = false from by simp [opB, hn, hf, hk, he]]
    as_aux_lemma =>
      repeat (first | (refine qc (ac_nameOK q1 hn) rfl ?_; conv => whnf) | (refine qc (ac_headOK_t hf.1 hf.2) rfl ?_; conv => whnf) | (refine r_put (p_bin (b_sne_t (by assumption)) rfl rfl rfl) rfl rfl ?_; conv => whnf) | (refine r_put (p_bin (b_sne_f (by assumption)) rfl rfl rfl) rfl rfl ?_; conv => whnf) | (refine r_put (p_bin (b_seq_t (by assumption)) rfl rfl rfl) rfl rfl ?_; conv => whnf) | (refine r_put (p_bin (b_seq_f (by assumption)) rfl rfl rfl) rfl rfl ?_; conv => whnf) | ((first | refine qb rfl rfl ?_ | refine qi (by assumption) rfl rfl ?_ | refine ql rfl ?_ | refine qo rfl rfl ?_ | refine qs rfl rfl ?_ | refine qn rfl rfl ?_); conv => whnf) | (refine r_put (p_bin b_eqd rfl rfl rfl) rfl rfl ?_; conv => whnf) | (refine r_put (p_bin b_seqd rfl rfl rfl) rfl rfl ?_; conv => whnf))
      exact r_ret1 rfl trivial
  rw [show opB _ = true from by simp [opB, hn, hf, hk, he]]
  as_aux_lemma =>
    repeat (first | (refine qc (ac_nameOK q1 hn) rfl ?_; conv => whnf) | (refine qc (ac_headOK_t hf.1 hf.2) rfl ?_; conv => whnf) | (refine r_put (p_bin (b_sne_t (by assumption)) rfl rfl rfl) rfl rfl ?_; conv => whnf) | (refine r_put (p_bin (b_sne_f (by assumption)) rfl rfl rfl) rfl rfl ?_; conv => whnf) | (refine r_put (p_bin (b_seq_t (by assumption)) rfl rfl rfl) rfl rfl ?_; conv => whnf) | (refine r_put (p_bin (b_seq_f (by assumption)) rfl rfl rfl) rfl rfl ?_; conv => whnf) | ((first | refine qb rfl rfl ?_ | refine qi (by assumption) rfl rfl ?_ | refine ql rfl ?_ | refine qo rfl rfl ?_ | refine qs rfl rfl ?_ | refine qn rfl rfl ?_); conv => whnf) | (refine r_put (p_bin b_eqd rfl rfl rfl) rfl rfl ?_; conv => whnf) | (refine r_put (p_bin b_seqd rfl rfl rfl) rfl rfl ?_; conv => whnf))
    exact r_ret1 rfl trivial
set_option maxHeartbeats 4000000 in
theorem ac_iOp3 {frm : Int} {nm key : ByteArray} {es : List Edt} (q1 : nm.size ≤ maxLen) (q2 : key.size ≤ maxLen) (q3 : es.length ≤ maxLen) (q4 : ∀ e ∈ es, e.key.size ≤ maxLen) (hn : okN nm = true) : AC Try.prog 112 [.agg [.v (.int .i64 3), .v (.int .i64 frm), .v (.string nm), .v (.string key), .lst 3 (es.map edtA)]] ⟨.v (.bool (opB ⟨3, frm, nm, key, es⟩)), []⟩ := by
  have q3' := q3
  unfold maxLen at q3'
  refine r_of Th_ok (by kernel_rfl) Try.func112 rfl Try.ntmps112 Try.results112 (by kernel_rfl) rfl ?_; conv => whnf
  repeat (first | (refine qc (ac_nameOK q1 hn) rfl ?_; conv => whnf) | ((first | refine qb rfl rfl ?_ | refine qi (by assumption) rfl rfl ?_ | refine ql rfl ?_ | refine qo rfl rfl ?_ | refine qs rfl rfl ?_ | refine qn rfl rfl ?_); conv => whnf))
  (refine .inl (And.intro (by kernel_rfl) ?_); conv => whnf)
  by_cases h0 : frm = 0
  case pos =>
    subst h0
    by_cases hk : key = eB
    case neg =>
      rw [show opB _ = false from by simp [opB, hn, hk]]
      as_aux_lemma =>
        repeat (first | (refine qc (ac_nameOK q1 hn) rfl ?_; conv => whnf) | (refine r_put (p_bin (b_sne_t (by assumption)) rfl rfl rfl) rfl rfl ?_; conv => whnf) | (refine r_put (p_bin (b_sne_f (by assumption)) rfl rfl rfl) rfl rfl ?_; conv => whnf) | (refine r_put (p_bin (b_seq_t (by assumption)) rfl rfl rfl) rfl rfl ?_; conv => whnf) | (refine r_put (p_bin (b_seq_f (by assumption)) rfl rfl rfl) rfl rfl ?_; conv => whnf) | ((first | refine qb rfl rfl ?_ | refine qi (by assumption) rfl rfl ?_ | refine ql rfl ?_ | refine qo rfl rfl ?_ | refine qs rfl rfl ?_ | refine qn rfl rfl ?_); conv => whnf) | (refine r_put (p_bin b_eqd rfl rfl rfl) rfl rfl ?_; conv => whnf) | (refine r_put (p_bin b_seqd rfl rfl rfl) rfl rfl ?_; conv => whnf))
        exact r_ret1 rfl trivial
    cases he : editsOK es with
    | false =>
      rw [show opB _ = false from by simp [opB, hn, hk, he]]
      as_aux_lemma =>
        repeat (first | (refine qc (ac_nameOK q1 hn) rfl ?_; conv => whnf) | (refine qc (ac_iEdts he q3 q4) rfl ?_; conv => whnf) | (refine r_put (p_bin (b_sne_t (by assumption)) rfl rfl rfl) rfl rfl ?_; conv => whnf) | (refine r_put (p_bin (b_sne_f (by assumption)) rfl rfl rfl) rfl rfl ?_; conv => whnf) | (refine r_put (p_bin (b_seq_t (by assumption)) rfl rfl rfl) rfl rfl ?_; conv => whnf) | (refine r_put (p_bin (b_seq_f (by assumption)) rfl rfl rfl) rfl rfl ?_; conv => whnf) | ((first | refine qb rfl rfl ?_ | refine qi (by assumption) rfl rfl ?_ | refine ql rfl ?_ | refine qo rfl rfl ?_ | refine qs rfl rfl ?_ | refine qn rfl rfl ?_); conv => whnf) | (refine r_put (p_bin b_eqd rfl rfl rfl) rfl rfl ?_; conv => whnf) | (refine r_put (p_bin b_seqd rfl rfl rfl) rfl rfl ?_; conv => whnf))
        exact r_ret1 rfl trivial
    | true =>
      rw [show opB _ = true from by simp [opB, hn, hk, he]]
      as_aux_lemma =>
        repeat (first | (refine qc (ac_nameOK q1 hn) rfl ?_; conv => whnf) | (refine qc (ac_iEdts he q3 q4) rfl ?_; conv => whnf) | (refine r_put (p_bin (b_sne_t (by assumption)) rfl rfl rfl) rfl rfl ?_; conv => whnf) | (refine r_put (p_bin (b_sne_f (by assumption)) rfl rfl rfl) rfl rfl ?_; conv => whnf) | (refine r_put (p_bin (b_seq_t (by assumption)) rfl rfl rfl) rfl rfl ?_; conv => whnf) | (refine r_put (p_bin (b_seq_f (by assumption)) rfl rfl rfl) rfl rfl ?_; conv => whnf) | ((first | refine qb rfl rfl ?_ | refine qi (by assumption) rfl rfl ?_ | refine ql rfl ?_ | refine qo rfl rfl ?_ | refine qs rfl rfl ?_ | refine qn rfl rfl ?_); conv => whnf) | (refine r_put (p_bin b_eqd rfl rfl rfl) rfl rfl ?_; conv => whnf) | (refine r_put (p_bin b_seqd rfl rfl rfl) rfl rfl ?_; conv => whnf))
        exact r_ret1 rfl trivial
  by_cases hf : 1 ≤ frm ∧ frm ≤ 60
  case neg =>
    have hf2 : ¬ (0 ≤ frm ∧ frm ≤ 60) := by omega
    rw [show opB _ = false from by simp [opB, hn, hf2]]
    as_aux_lemma =>
      repeat (first | (refine qc (ac_nameOK q1 hn) rfl ?_; conv => whnf) | (refine qc (ac_headOK_f hf) rfl ?_; conv => whnf) | (refine r_put (p_bin (b_sne_t (by assumption)) rfl rfl rfl) rfl rfl ?_; conv => whnf) | (refine r_put (p_bin (b_sne_f (by assumption)) rfl rfl rfl) rfl rfl ?_; conv => whnf) | (refine r_put (p_bin (b_seq_t (by assumption)) rfl rfl rfl) rfl rfl ?_; conv => whnf) | (refine r_put (p_bin (b_seq_f (by assumption)) rfl rfl rfl) rfl rfl ?_; conv => whnf) | ((first | refine qb rfl rfl ?_ | refine qi (by assumption) rfl rfl ?_ | refine ql rfl ?_ | refine qo rfl rfl ?_ | refine qs rfl rfl ?_ | refine qn rfl rfl ?_); conv => whnf) | (refine r_put (p_bin b_eqd rfl rfl rfl) rfl rfl ?_; conv => whnf) | (refine r_put (p_bin b_seqd rfl rfl rfl) rfl rfl ?_; conv => whnf))
      exact r_ret1 rfl trivial
  have hf2 : 0 ≤ frm ∧ frm ≤ 60 := by omega
  by_cases hk : key = eB
  case neg =>
    rw [show opB _ = false from by simp [opB, hn, hf2, hk]]
    as_aux_lemma =>
      repeat (first | (refine qc (ac_nameOK q1 hn) rfl ?_; conv => whnf) | (refine qc (ac_headOK_t hf.1 hf.2) rfl ?_; conv => whnf) | (refine r_put (p_bin (b_sne_t (by assumption)) rfl rfl rfl) rfl rfl ?_; conv => whnf) | (refine r_put (p_bin (b_sne_f (by assumption)) rfl rfl rfl) rfl rfl ?_; conv => whnf) | (refine r_put (p_bin (b_seq_t (by assumption)) rfl rfl rfl) rfl rfl ?_; conv => whnf) | (refine r_put (p_bin (b_seq_f (by assumption)) rfl rfl rfl) rfl rfl ?_; conv => whnf) | ((first | refine qb rfl rfl ?_ | refine qi (by assumption) rfl rfl ?_ | refine ql rfl ?_ | refine qo rfl rfl ?_ | refine qs rfl rfl ?_ | refine qn rfl rfl ?_); conv => whnf) | (refine r_put (p_bin b_eqd rfl rfl rfl) rfl rfl ?_; conv => whnf) | (refine r_put (p_bin b_seqd rfl rfl rfl) rfl rfl ?_; conv => whnf))
      exact r_ret1 rfl trivial
  cases he : editsOK es with
  | false =>
    rw [show opB _ = false from by simp [opB, hn, hf2, hk, he]]
    as_aux_lemma =>
      repeat (first | (refine qc (ac_nameOK q1 hn) rfl ?_; conv => whnf) | (refine qc (ac_headOK_t hf.1 hf.2) rfl ?_; conv => whnf) | (refine qc (ac_iEdts he q3 q4) rfl ?_; conv => whnf) | (refine r_put (p_bin (b_sne_t (by assumption)) rfl rfl rfl) rfl rfl ?_; conv => whnf) | (refine r_put (p_bin (b_sne_f (by assumption)) rfl rfl rfl) rfl rfl ?_; conv => whnf) | (refine r_put (p_bin (b_seq_t (by assumption)) rfl rfl rfl) rfl rfl ?_; conv => whnf) | (refine r_put (p_bin (b_seq_f (by assumption)) rfl rfl rfl) rfl rfl ?_; conv => whnf) | ((first | refine qb rfl rfl ?_ | refine qi (by assumption) rfl rfl ?_ | refine ql rfl ?_ | refine qo rfl rfl ?_ | refine qs rfl rfl ?_ | refine qn rfl rfl ?_); conv => whnf) | (refine r_put (p_bin b_eqd rfl rfl rfl) rfl rfl ?_; conv => whnf) | (refine r_put (p_bin b_seqd rfl rfl rfl) rfl rfl ?_; conv => whnf))
      exact r_ret1 rfl trivial
  | true =>
    rw [show opB _ = true from by simp [opB, hn, hf2, hk, he]]
    as_aux_lemma =>
      repeat (first | (refine qc (ac_nameOK q1 hn) rfl ?_; conv => whnf) | (refine qc (ac_headOK_t hf.1 hf.2) rfl ?_; conv => whnf) | (refine qc (ac_iEdts he q3 q4) rfl ?_; conv => whnf) | (refine r_put (p_bin (b_sne_t (by assumption)) rfl rfl rfl) rfl rfl ?_; conv => whnf) | (refine r_put (p_bin (b_sne_f (by assumption)) rfl rfl rfl) rfl rfl ?_; conv => whnf) | (refine r_put (p_bin (b_seq_t (by assumption)) rfl rfl rfl) rfl rfl ?_; conv => whnf) | (refine r_put (p_bin (b_seq_f (by assumption)) rfl rfl rfl) rfl rfl ?_; conv => whnf) | ((first | refine qb rfl rfl ?_ | refine qi (by assumption) rfl rfl ?_ | refine ql rfl ?_ | refine qo rfl rfl ?_ | refine qs rfl rfl ?_ | refine qn rfl rfl ?_); conv => whnf) | (refine r_put (p_bin b_eqd rfl rfl rfl) rfl rfl ?_; conv => whnf) | (refine r_put (p_bin b_seqd rfl rfl rfl) rfl rfl ?_; conv => whnf))
      exact r_ret1 rfl trivial
end Go.Proofs.Ytmfmclnklpbiaaa.AM
namespace Go.Proofs.Ytmfmclnklpbiaaa.AM
open Go Go.RowKit
set_option linter.unusedVariables false
set_option linter.unusedSimpArgs false
set_option maxRecDepth 100000
attribute [local irreducible] ACode AOps AOps2 RetG RetM Pre ACG
end Go.Proofs.Ytmfmclnklpbiaaa.AM
