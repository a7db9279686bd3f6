/- A law's arguments opened: lists of structs whatever their fields; a wish, wishes, a moment. -/
import Derived.Test.YtjhimcddgkoghaaG1
namespace Go.Proofs.Ytjhimcddgkoghaa.AM
open Go Go.RowKit Go.ChangeShapes Go.WideShapes Go.Deep
set_option linter.unusedVariables false
set_option linter.unusedSimpArgs false
structure Wsh where
  kind : Int
  name : ByteArray
  source : ByteArray
  key : ByteArray
  edits : List Edt
structure Mom where
  client : Int
  wish : Int
  step : Int
  op : Opr
  res : Rst
def momA (m : Mom) : AV := .agg [.v (.int .i64 m.client), .v (.int .i64 m.wish), .v (.int .i64 m.step), oprA m.op, rstA m.res]
def Wsh.ok (o : Wsh) (N : Nat) : Prop := o.name.size ≤ N ∧ o.source.size ≤ N ∧ o.key.size ≤ N ∧ o.edits.length ≤ N ∧ ∀ e ∈ o.edits, e.key.size ≤ N
section
variable {S : Nat → Prop} {w : World}
end
section
variable {H : Type} {enc : TypeId × Value → H} {P : Program} {w : World} {base : Nat} {held : Bool}
/-- an element that is a struct: it reads as its value does -/
theorem ra_of_agg {xs : List AV} {cs : List Value} (h : ∀ hp B V, RV (InW w) w hp B V (.agg xs) (.agg cs.toArray)) : RA (InW w) w (.agg xs) cs := by
  have := h (fun _ => none) (fun _ => 0) (fun _ => undef)
  unfold RV at this
  obtain ⟨us, e, hr⟩ := this
  have : us = cs := by
    have := congrArg (fun v => match v with | Value.agg a => a.toList | _ => []) e
    simpa using this.symm
  subst this
  exact ra_agg hr
theorem trod_agg {t : TypeId} {cs : List Value} {k : Nat} {y : DataW H × List MemPlace} (h : DataW.trod enc P w base (fun _ => true) held k t cs = some y) : DataW.Trod enc P w base (fun _ => true) held t (.agg cs.toArray) y.1 y.2 := ⟨k, by simpa [Value.cells] using h⟩
/-- a moment: an operation and a result lie within -/
theorem open_mom {t : TypeId} {f0 f1 f2 f3 f4 : Field} {cs : Array Value} {d : DataW H} {p : List MemPlace} (ht : P.underlying t = some (.struct #[f0, f1, f2, f3, f4])) (hC : P.cellsOf t = 13)
    (hof : f0.offset = 0 ∧ f1.offset = 1 ∧ f2.offset = 2 ∧ f3.offset = 3 ∧ f4.offset = 8) (hce : P.cellsOf f0.type = 1 ∧ P.cellsOf f1.type = 1 ∧ P.cellsOf f2.type = 1 ∧ P.cellsOf f3.type = 5 ∧ P.cellsOf f4.type = 5)
    (h0 : P.underlying f0.type = some (.int .i64)) (h1 : P.underlying f1.type = some (.int .i64)) (h2 : P.underlying f2.type = some (.int .i64))
    (h3 : ∀ (cs : Array Value) (d : DataW H) (p : List MemPlace), DataW.Trod enc P w base (fun _ => true) held f3.type (.agg cs) d p → ∃ o : Opr, (∀ hp B V, RV (InW w) w hp B V (oprA o) (.agg cs)) ∧ o.ok maxLen)
    (h4 : ∀ (cs : Array Value) (d : DataW H) (p : List MemPlace), DataW.Trod enc P w base (fun _ => true) held f4.type (.agg cs) d p → ∃ o : Rst, (∀ hp B V, RV (InW w) w hp B V (rstA o) (.agg cs)) ∧ o.ok maxLen)
    (h : DataW.Trod enc P w base (fun _ => true) held t (.agg cs) d p) : ∃ m : Mom, (∀ hp B V, RV (InW w) w hp B V (momA m) (.agg cs)) ∧ m.op.ok maxLen ∧ m.res.ok maxLen := by
  obtain ⟨fuel, hf⟩ := h
  obtain ⟨xs, n', hn', hy, hl, hlen, hg⟩ := DataW.trod_struct ht hf
  have hL : cs.toList.length = 13 := by rw [hC] at hl; simpa [Value.cells] using hl
  have e : (Value.cells (.agg cs)).toList = cs.toList := rfl
  rw [e] at hg
  obtain ⟨o0, o1, o2, o3, o4⟩ := hof
  obtain ⟨q0, q1, q2, q3, q4⟩ := hce
  have hx : ∀ j (hj : j < 5), xs[j]? = some (xs[j]'(by have : xs.length = 5 := hlen; omega)) := fun j hj => List.getElem?_eq_getElem _
  have t0 := (hg 0 f0 rfl).trans (hx 0 (by omega))
  have t1 := (hg 1 f1 rfl).trans (hx 1 (by omega))
  have t2 := (hg 2 f2 rfl).trans (hx 2 (by omega))
  have t3 := (hg 3 f3 rfl).trans (hx 3 (by omega))
  have t4 := (hg 4 f4 rfl).trans (hx 4 (by omega))
  rw [o0, q0] at t0
  rw [o1, q1] at t1
  rw [o2, q2] at t2
  rw [o3, q3] at t3
  rw [o4, q4] at t4
  obtain ⟨x0, hx0, _, _⟩ := DataW.trod_int h0 t0
  obtain ⟨x1, hx1, _, _⟩ := DataW.trod_int h1 t1
  obtain ⟨x2, hx2, _, _⟩ := DataW.trod_int h2 t2
  obtain ⟨o, ho, hok⟩ := h3 _ _ _ (trod_agg t3)
  obtain ⟨r, hr, hrk⟩ := h4 _ _ _ (trod_agg t4)
  refine ⟨⟨x0, x1, x2, o, r⟩, fun hp B V => ?_, hok, hrk⟩
  have hsplit : cs.toList = [.int .i64 x0] ++ ([.int .i64 x1] ++ ([.int .i64 x2] ++ ((cs.toList.drop 3).take 5 ++ ((cs.toList.drop 8).take 5 ++ [])))) := by
    rw [← hx0, ← hx1, ← hx2]
    generalize cs.toList = l at hL
    match l, hL with
    | [_, _, _, _, _, _, _, _, _, _, _, _, _], _ => rfl
  exact rv_agg hsplit (rl_cons (ra_v rfl) (rl_cons (ra_v rfl) (rl_cons (ra_v rfl) (rl_cons (ra_of_agg ho) (rl_cons (ra_of_agg hr) rl_nil)))))
end
end Go.Proofs.Ytjhimcddgkoghaa.AM
