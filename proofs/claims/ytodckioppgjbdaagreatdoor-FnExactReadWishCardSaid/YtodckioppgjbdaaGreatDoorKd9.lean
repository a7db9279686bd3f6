/- Texts of the machine over data, folded. -/
import Derived.Test.YtodckioppgjbdaaGreatDoorKd5
import Derived.Test.YtodckioppgjbdaaGreatDoorKd8
set_option linter.unusedVariables false
set_option linter.unusedSimpArgs false
set_option maxRecDepth 100000
namespace Go.Proofs.YtodckioppgjbdaaGreatDoor.AM
open Go Go.RowKit
theorem wK {P : Program} {Θ : Tab} {s : St} {d : Option Tmp} {ty : TypeId} {pos : String} {after : Array Edge} {g : Option (Nat × Bool)} {t : TypeId} {x lo : Operand} {k : IntKind} {el sz b : Nat} {z u v : AV} {ys : List AV} (ht : Θ.look t = .slice el sz b z) (hx : s.ev x = .lst sz (u :: v :: ys)) (hl : s.ev lo = .v (.int k 2)) : Pre P Θ ⟨d, .slice t x (some lo) none none, ty, pos, after, g⟩ s ⟨.lst sz ys, none⟩ := by
 have h := aIm (P := P) (Θ := Θ) (d := d) (ty := ty) (pos := pos) (after := after) (g := g) (t := t) (x := x) (lo := some lo) (hi := none) (l := 2) (h := (u :: v :: ys).length) (by simp) (Nat.le_refl _) ht hx ⟨k, hl⟩ rfl
 rw [List.take_length] at h
 exact h
attribute [local irreducible] xD xJ xQ yD yJ Pre ACG
theorem aB3 {ws : List ByteArray} (h : ws.length < 2) : AC Tryz.prog 48 [.lst 1 (ws.map xP)] ⟨.tup [.agg [.v (.int .i64 0), .v (.string eB), .v (.string eB), .v (.string eB), .lst 3 []], .v (.bool false)], []⟩ := by
 refine qrf Tryz.func48 Tryz.ntmps48 Tryz.results48 ?_; conv => whnf
 repeat ((first | refine qz ?_ | refine qst ?_); conv => whnf)
 exact xS rfl rfl rfl rfl trivial rfl
theorem aF6 {a n : ByteArray} {rest : List ByteArray} {f g : FuncId} {r : Wsh} {k : Int} {b : Bool} (hm : rest.length ≤ 1000000) (hd : AC Tryz.prog 43 [.v (.string a)] ⟨.tup [.mix [.fn f [] [], .fn g [] []], .v (.bool true)], []⟩)
 (hr : AC Tryz.prog 109 [.mix [.fn f [] [], .fn g [] []], .lst 1 (rest.map xP)] ⟨.tup [.agg [.v (.int .i64 r.kind), .v (.string r.name), .v (.string r.source), .v (.string r.key), .lst 3 (r.edits.map x9)], .v (.bool false)], []⟩)
 (hk : AC Tryz.prog 110 [.v (.string a)] ⟨.v (.int .i64 k), []⟩) (hc : AC Tryz.prog 101 [.v (.string n)] ⟨.v (.string n), []⟩)
 (hw : AC Tryz.prog 42 [.agg [.v (.int .i64 k), .v (.string n), .v (.string r.source), .v (.string r.key), .lst 3 (r.edits.map x9)]] ⟨.v (.bool b), []⟩) : AC Tryz.prog 48 [.lst 1 (xP a :: xP n :: rest.map xP)] ⟨.tup [.agg [.v (.int .i64 0), .v (.string eB), .v (.string eB), .v (.string eB), .lst 3 []], .v (.bool false)], []⟩ := by
 by_cases h0 : rest.length = 0
 all_goals
  refine qrf Tryz.func48 Tryz.ntmps48 Tryz.results48 ?_; conv => whnf
  repeat (first | (refine qp (zN (j := 0) (y := xP a) rfl rfl rfl rfl) ?_; conv => whnf) | (refine qp (zN (j := 1) (y := xP n) rfl rfl rfl rfl) ?_; conv => whnf) | (refine qp (wK rfl rfl rfl) ?_; conv => whnf) | (refine qp (xA (vQ (by simp; omega)) rfl rfl rfl) ?_; conv => whnf) | (refine qz ?_; conv => whnf) | (refine qc (hd) ?_; conv => whnf) | (refine qr (kg [] hr rfl rfl trivial rfl rfl trivial rfl rfl rfl (.inl rfl) rfl) ?_; conv => whnf) | (refine qc (hk) ?_; conv => whnf) | (refine qc (hc) ?_; conv => whnf) | (refine qc (hw) ?_; conv => whnf) | (refine qst ?_; conv => whnf) | (refine qr (uQ rfl rfl rfl rfl) ?_; conv => whnf) | (refine qr (yU rfl rfl rfl rfl rfl rfl) ?_; conv => whnf) | (refine qp (zW rfl rfl rfl rfl rfl rfl rfl rfl) ?_; conv => whnf) | (refine qdr ?_; conv => whnf))
  exact xS rfl rfl rfl rfl trivial rfl
theorem aJZ {a n : ByteArray} {rest : List ByteArray} {f g : FuncId} {r : Wsh} {k : Int} {b : Bool} (hm : rest.length ≤ 1000000) (hd : AC Tryz.prog 43 [.v (.string a)] ⟨.tup [.mix [.fn f [] [], .fn g [] []], .v (.bool true)], []⟩)
 (hr : AC Tryz.prog 109 [.mix [.fn f [] [], .fn g [] []], .lst 1 (rest.map xP)] ⟨.tup [.agg [.v (.int .i64 r.kind), .v (.string r.name), .v (.string r.source), .v (.string r.key), .lst 3 (r.edits.map x9)], .v (.bool true)], []⟩)
 (hk : AC Tryz.prog 110 [.v (.string a)] ⟨.v (.int .i64 k), []⟩) (hc : AC Tryz.prog 101 [.v (.string n)] ⟨.v (.string n), []⟩)
 (hw : AC Tryz.prog 42 [.agg [.v (.int .i64 k), .v (.string n), .v (.string r.source), .v (.string r.key), .lst 3 (r.edits.map x9)]] ⟨.v (.bool false), []⟩) : AC Tryz.prog 48 [.lst 1 (xP a :: xP n :: rest.map xP)] ⟨.tup [.agg [.v (.int .i64 0), .v (.string eB), .v (.string eB), .v (.string eB), .lst 3 []], .v (.bool false)], []⟩ := by
 by_cases h0 : rest.length = 0
 all_goals
  refine qrf Tryz.func48 Tryz.ntmps48 Tryz.results48 ?_; conv => whnf
  repeat (first | (refine qp (zN (j := 0) (y := xP a) rfl rfl rfl rfl) ?_; conv => whnf) | (refine qp (zN (j := 1) (y := xP n) rfl rfl rfl rfl) ?_; conv => whnf) | (refine qp (wK rfl rfl rfl) ?_; conv => whnf) | (refine qp (xA (vQ (by simp; omega)) rfl rfl rfl) ?_; conv => whnf) | (refine qz ?_; conv => whnf) | (refine qc (hd) ?_; conv => whnf) | (refine qr (kg [] hr rfl rfl trivial rfl rfl trivial rfl rfl rfl (.inl rfl) rfl) ?_; conv => whnf) | (refine qc (hk) ?_; conv => whnf) | (refine qc (hc) ?_; conv => whnf) | (refine qc (hw) ?_; conv => whnf) | (refine qst ?_; conv => whnf) | (refine qr (uQ rfl rfl rfl rfl) ?_; conv => whnf) | (refine qr (yU rfl rfl rfl rfl rfl rfl) ?_; conv => whnf) | (refine qp (zW rfl rfl rfl rfl rfl rfl rfl rfl) ?_; conv => whnf) | (refine qdr ?_; conv => whnf))
  exact xS rfl rfl rfl rfl trivial rfl
theorem aJ0 {a n : ByteArray} {rest : List ByteArray} {f g : FuncId} {r : Wsh} {k : Int} {b : Bool} (hm : rest.length ≤ 1000000) (hd : AC Tryz.prog 43 [.v (.string a)] ⟨.tup [.mix [.fn f [] [], .fn g [] []], .v (.bool true)], []⟩)
 (hr : AC Tryz.prog 109 [.mix [.fn f [] [], .fn g [] []], .lst 1 (rest.map xP)] ⟨.tup [.agg [.v (.int .i64 r.kind), .v (.string r.name), .v (.string r.source), .v (.string r.key), .lst 3 (r.edits.map x9)], .v (.bool true)], []⟩)
 (hk : AC Tryz.prog 110 [.v (.string a)] ⟨.v (.int .i64 k), []⟩) (hc : AC Tryz.prog 101 [.v (.string n)] ⟨.v (.string n), []⟩)
 (hw : AC Tryz.prog 42 [.agg [.v (.int .i64 k), .v (.string n), .v (.string r.source), .v (.string r.key), .lst 3 (r.edits.map x9)]] ⟨.v (.bool true), []⟩) : AC Tryz.prog 48 [.lst 1 (xP a :: xP n :: rest.map xP)] ⟨.tup [.agg [.v (.int .i64 k), .v (.string n), .v (.string r.source), .v (.string r.key), .lst 3 (r.edits.map x9)], .v (.bool true)], []⟩ := by
 by_cases h0 : rest.length = 0
 all_goals
  refine qrf Tryz.func48 Tryz.ntmps48 Tryz.results48 ?_; conv => whnf
  repeat (first | (refine qp (zN (j := 0) (y := xP a) rfl rfl rfl rfl) ?_; conv => whnf) | (refine qp (zN (j := 1) (y := xP n) rfl rfl rfl rfl) ?_; conv => whnf) | (refine qp (wK rfl rfl rfl) ?_; conv => whnf) | (refine qp (xA (vQ (by simp; omega)) rfl rfl rfl) ?_; conv => whnf) | (refine qz ?_; conv => whnf) | (refine qc (hd) ?_; conv => whnf) | (refine qr (kg [] hr rfl rfl trivial rfl rfl trivial rfl rfl rfl (.inl rfl) rfl) ?_; conv => whnf) | (refine qc (hk) ?_; conv => whnf) | (refine qc (hc) ?_; conv => whnf) | (refine qc (hw) ?_; conv => whnf) | (refine qst ?_; conv => whnf) | (refine qr (uQ rfl rfl rfl rfl) ?_; conv => whnf) | (refine qr (yU rfl rfl rfl rfl rfl rfl) ?_; conv => whnf) | (refine qp (zW rfl rfl rfl rfl rfl rfl rfl rfl) ?_; conv => whnf) | (refine qdr ?_; conv => whnf))
  exact xS rfl rfl rfl rfl trivial rfl
theorem aIV {a n : ByteArray} {rest : List ByteArray} {f g : FuncId} {es : List Edt} {k : Int} {b : Bool} (hm : rest.length ≤ 1000000) (hd : AC Tryz.prog 43 [.v (.string a)] ⟨.tup [.mix [.fn f [] [], .fn g [] []], .v (.bool true)], []⟩)
 (hr : AC Tryz.prog 109 [.mix [.fn f [] [], .fn g [] []], .lst 1 (rest.map xP)] ⟨.tup [.mix [.v (.int .i64 0), .v (.string eB), .v (.string eB), .v (.string eB), .own 0], .v (.bool false)], [⟨107, 3, es.map x9⟩]⟩)
 (hk : AC Tryz.prog 110 [.v (.string a)] ⟨.v (.int .i64 k), []⟩) (hc : AC Tryz.prog 101 [.v (.string n)] ⟨.v (.string n), []⟩)
 (hw : AC Tryz.prog 42 [.agg [.v (.int .i64 k), .v (.string n), .v (.string eB), .v (.string eB), .lst 3 (es.map x9)]] ⟨.v (.bool b), []⟩) : AC Tryz.prog 48 [.lst 1 (xP a :: xP n :: rest.map xP)] ⟨.tup [.agg [.v (.int .i64 0), .v (.string eB), .v (.string eB), .v (.string eB), .lst 3 []], .v (.bool false)], []⟩ := by
 by_cases h0 : rest.length = 0
 all_goals
  refine qrf Tryz.func48 Tryz.ntmps48 Tryz.results48 ?_; conv => whnf
  repeat (first | (refine qp (zN (j := 0) (y := xP a) rfl rfl rfl rfl) ?_; conv => whnf) | (refine qp (zN (j := 1) (y := xP n) rfl rfl rfl rfl) ?_; conv => whnf) | (refine qp (wK rfl rfl rfl) ?_; conv => whnf) | (refine qp (xA (vQ (by simp; omega)) rfl rfl rfl) ?_; conv => whnf) | (refine qz ?_; conv => whnf) | (refine qc (hd) ?_; conv => whnf) | (refine qr (kg [] hr rfl rfl trivial rfl rfl ⟨⟨rfl, rfl, rfl⟩, trivial⟩ rfl rfl rfl (.inl rfl) rfl) ?_; conv => whnf) | (refine qc (hk) ?_; conv => whnf) | (refine qc (hc) ?_; conv => whnf) | (refine qc (hw) ?_; conv => whnf) | (refine qst ?_; conv => whnf) | (refine qr (uQ rfl rfl rfl rfl) ?_; conv => whnf) | (refine qr (yU rfl rfl rfl rfl rfl rfl) ?_; conv => whnf) | (refine qp (zW rfl rfl rfl rfl rfl rfl rfl rfl) ?_; conv => whnf) | (refine qdr ?_; conv => whnf))
  exact xS rfl rfl rfl rfl trivial rfl
theorem aIW {a n : ByteArray} {rest : List ByteArray} {f g : FuncId} {es : List Edt} {k : Int} {b : Bool} (hm : rest.length ≤ 1000000) (hd : AC Tryz.prog 43 [.v (.string a)] ⟨.tup [.mix [.fn f [] [], .fn g [] []], .v (.bool true)], []⟩)
 (hr : AC Tryz.prog 109 [.mix [.fn f [] [], .fn g [] []], .lst 1 (rest.map xP)] ⟨.tup [.mix [.v (.int .i64 0), .v (.string eB), .v (.string eB), .v (.string eB), .own 0], .v (.bool true)], [⟨107, 3, es.map x9⟩]⟩)
 (hk : AC Tryz.prog 110 [.v (.string a)] ⟨.v (.int .i64 k), []⟩) (hc : AC Tryz.prog 101 [.v (.string n)] ⟨.v (.string n), []⟩)
 (hw : AC Tryz.prog 42 [.agg [.v (.int .i64 k), .v (.string n), .v (.string eB), .v (.string eB), .lst 3 (es.map x9)]] ⟨.v (.bool false), []⟩) : AC Tryz.prog 48 [.lst 1 (xP a :: xP n :: rest.map xP)] ⟨.tup [.agg [.v (.int .i64 0), .v (.string eB), .v (.string eB), .v (.string eB), .lst 3 []], .v (.bool false)], []⟩ := by
 by_cases h0 : rest.length = 0
 all_goals
  refine qrf Tryz.func48 Tryz.ntmps48 Tryz.results48 ?_; conv => whnf
  repeat (first | (refine qp (zN (j := 0) (y := xP a) rfl rfl rfl rfl) ?_; conv => whnf) | (refine qp (zN (j := 1) (y := xP n) rfl rfl rfl rfl) ?_; conv => whnf) | (refine qp (wK rfl rfl rfl) ?_; conv => whnf) | (refine qp (xA (vQ (by simp; omega)) rfl rfl rfl) ?_; conv => whnf) | (refine qz ?_; conv => whnf) | (refine qc (hd) ?_; conv => whnf) | (refine qr (kg [] hr rfl rfl trivial rfl rfl ⟨⟨rfl, rfl, rfl⟩, trivial⟩ rfl rfl rfl (.inl rfl) rfl) ?_; conv => whnf) | (refine qc (hk) ?_; conv => whnf) | (refine qc (hc) ?_; conv => whnf) | (refine qc (hw) ?_; conv => whnf) | (refine qst ?_; conv => whnf) | (refine qr (uQ rfl rfl rfl rfl) ?_; conv => whnf) | (refine qr (yU rfl rfl rfl rfl rfl rfl) ?_; conv => whnf) | (refine qp (zW rfl rfl rfl rfl rfl rfl rfl rfl) ?_; conv => whnf) | (refine qdr ?_; conv => whnf))
  exact xS rfl rfl rfl rfl trivial rfl
theorem aIX {a n : ByteArray} {rest : List ByteArray} {f g : FuncId} {es : List Edt} {k : Int} {b : Bool} (hm : rest.length ≤ 1000000) (hd : AC Tryz.prog 43 [.v (.string a)] ⟨.tup [.mix [.fn f [] [], .fn g [] []], .v (.bool true)], []⟩)
 (hr : AC Tryz.prog 109 [.mix [.fn f [] [], .fn g [] []], .lst 1 (rest.map xP)] ⟨.tup [.mix [.v (.int .i64 0), .v (.string eB), .v (.string eB), .v (.string eB), .own 0], .v (.bool true)], [⟨107, 3, es.map x9⟩]⟩)
 (hk : AC Tryz.prog 110 [.v (.string a)] ⟨.v (.int .i64 k), []⟩) (hc : AC Tryz.prog 101 [.v (.string n)] ⟨.v (.string n), []⟩)
 (hw : AC Tryz.prog 42 [.agg [.v (.int .i64 k), .v (.string n), .v (.string eB), .v (.string eB), .lst 3 (es.map x9)]] ⟨.v (.bool true), []⟩) : AC Tryz.prog 48 [.lst 1 (xP a :: xP n :: rest.map xP)] ⟨.tup [.mix [.v (.int .i64 k), .v (.string n), .v (.string eB), .v (.string eB), .own 0], .v (.bool true)], [⟨107, 3, es.map x9⟩]⟩ := by
 by_cases h0 : rest.length = 0
 all_goals
  refine qrf Tryz.func48 Tryz.ntmps48 Tryz.results48 ?_; conv => whnf
  repeat (first | (refine qp (zN (j := 0) (y := xP a) rfl rfl rfl rfl) ?_; conv => whnf) | (refine qp (zN (j := 1) (y := xP n) rfl rfl rfl rfl) ?_; conv => whnf) | (refine qp (wK rfl rfl rfl) ?_; conv => whnf) | (refine qp (xA (vQ (by simp; omega)) rfl rfl rfl) ?_; conv => whnf) | (refine qz ?_; conv => whnf) | (refine qc (hd) ?_; conv => whnf) | (refine qr (kg [] hr rfl rfl trivial rfl rfl ⟨⟨rfl, rfl, rfl⟩, trivial⟩ rfl rfl rfl (.inl rfl) rfl) ?_; conv => whnf) | (refine qc (hk) ?_; conv => whnf) | (refine qc (hc) ?_; conv => whnf) | (refine qc (hw) ?_; conv => whnf) | (refine qst ?_; conv => whnf) | (refine qr (uQ rfl rfl rfl rfl) ?_; conv => whnf) | (refine qr (yU rfl rfl rfl rfl rfl rfl) ?_; conv => whnf) | (refine qp (zW rfl rfl rfl rfl rfl rfl rfl rfl) ?_; conv => whnf) | (refine qdr ?_; conv => whnf))
  exact aBS rfl rfl rfl rfl rfl rfl rfl
theorem aIS {a n : ByteArray} {rest : List ByteArray} {k : Int} {b : Bool} (hm : rest.length ≤ 1000000) (h0 : ¬ rest.length = 0) (hd : AC Tryz.prog 43 [.v (.string a)] ⟨.tup [.agg [.v .nilFunc, .v .nilFunc], .v (.bool false)], []⟩)
 (hk : AC Tryz.prog 110 [.v (.string a)] ⟨.v (.int .i64 k), []⟩) (hc : AC Tryz.prog 101 [.v (.string n)] ⟨.v (.string n), []⟩)
 (hw : AC Tryz.prog 42 [.agg [.v (.int .i64 k), .v (.string n), .v (.string eB), .v (.string eB), .lst 3 []]] ⟨.v (.bool b), []⟩) : AC Tryz.prog 48 [.lst 1 (xP a :: xP n :: rest.map xP)] ⟨.tup [.agg [.v (.int .i64 0), .v (.string eB), .v (.string eB), .v (.string eB), .lst 3 []], .v (.bool false)], []⟩ := by
 refine qrf Tryz.func48 Tryz.ntmps48 Tryz.results48 ?_; conv => whnf
 repeat (first | (refine qp (zN (j := 0) (y := xP a) rfl rfl rfl rfl) ?_; conv => whnf) | (refine qp (zN (j := 1) (y := xP n) rfl rfl rfl rfl) ?_; conv => whnf) | (refine qp (wK rfl rfl rfl) ?_; conv => whnf) | (refine qp (xA (vQ (by simp; omega)) rfl rfl rfl) ?_; conv => whnf) | (refine qz ?_; conv => whnf) | (refine qc (hd) ?_; conv => whnf) | (refine qc (hk) ?_; conv => whnf) | (refine qc (hc) ?_; conv => whnf) | (refine qc (hw) ?_; conv => whnf) | (refine qst ?_; conv => whnf) | (refine qr (uQ rfl rfl rfl rfl) ?_; conv => whnf) | (refine qr (yU rfl rfl rfl rfl rfl rfl) ?_; conv => whnf) | (refine qp (zW rfl rfl rfl rfl rfl rfl rfl rfl) ?_; conv => whnf) | (refine qdr ?_; conv => whnf))
 exact xS rfl rfl rfl rfl trivial rfl
theorem aIT {a n : ByteArray} {rest : List ByteArray} {k : Int} {b : Bool} (hm : rest.length ≤ 1000000) (h0 : rest.length = 0) (hd : AC Tryz.prog 43 [.v (.string a)] ⟨.tup [.agg [.v .nilFunc, .v .nilFunc], .v (.bool false)], []⟩)
 (hk : AC Tryz.prog 110 [.v (.string a)] ⟨.v (.int .i64 k), []⟩) (hc : AC Tryz.prog 101 [.v (.string n)] ⟨.v (.string n), []⟩)
 (hw : AC Tryz.prog 42 [.agg [.v (.int .i64 k), .v (.string n), .v (.string eB), .v (.string eB), .lst 3 []]] ⟨.v (.bool false), []⟩) : AC Tryz.prog 48 [.lst 1 (xP a :: xP n :: rest.map xP)] ⟨.tup [.agg [.v (.int .i64 0), .v (.string eB), .v (.string eB), .v (.string eB), .lst 3 []], .v (.bool false)], []⟩ := by
 refine qrf Tryz.func48 Tryz.ntmps48 Tryz.results48 ?_; conv => whnf
 repeat (first | (refine qp (zN (j := 0) (y := xP a) rfl rfl rfl rfl) ?_; conv => whnf) | (refine qp (zN (j := 1) (y := xP n) rfl rfl rfl rfl) ?_; conv => whnf) | (refine qp (wK rfl rfl rfl) ?_; conv => whnf) | (refine qp (xA (vQ (by simp; omega)) rfl rfl rfl) ?_; conv => whnf) | (refine qz ?_; conv => whnf) | (refine qc (hd) ?_; conv => whnf) | (refine qc (hk) ?_; conv => whnf) | (refine qc (hc) ?_; conv => whnf) | (refine qc (hw) ?_; conv => whnf) | (refine qst ?_; conv => whnf) | (refine qr (uQ rfl rfl rfl rfl) ?_; conv => whnf) | (refine qr (yU rfl rfl rfl rfl rfl rfl) ?_; conv => whnf) | (refine qp (zW rfl rfl rfl rfl rfl rfl rfl rfl) ?_; conv => whnf) | (refine qdr ?_; conv => whnf))
 exact xS rfl rfl rfl rfl trivial rfl
theorem aIU {a n : ByteArray} {rest : List ByteArray} {k : Int} {b : Bool} (hm : rest.length ≤ 1000000) (h0 : rest.length = 0) (hd : AC Tryz.prog 43 [.v (.string a)] ⟨.tup [.agg [.v .nilFunc, .v .nilFunc], .v (.bool false)], []⟩)
 (hk : AC Tryz.prog 110 [.v (.string a)] ⟨.v (.int .i64 k), []⟩) (hc : AC Tryz.prog 101 [.v (.string n)] ⟨.v (.string n), []⟩)
 (hw : AC Tryz.prog 42 [.agg [.v (.int .i64 k), .v (.string n), .v (.string eB), .v (.string eB), .lst 3 []]] ⟨.v (.bool true), []⟩) : AC Tryz.prog 48 [.lst 1 (xP a :: xP n :: rest.map xP)] ⟨.tup [.agg [.v (.int .i64 k), .v (.string n), .v (.string eB), .v (.string eB), .lst 3 []], .v (.bool true)], []⟩ := by
 refine qrf Tryz.func48 Tryz.ntmps48 Tryz.results48 ?_; conv => whnf
 repeat (first | (refine qp (zN (j := 0) (y := xP a) rfl rfl rfl rfl) ?_; conv => whnf) | (refine qp (zN (j := 1) (y := xP n) rfl rfl rfl rfl) ?_; conv => whnf) | (refine qp (wK rfl rfl rfl) ?_; conv => whnf) | (refine qp (xA (vQ (by simp; omega)) rfl rfl rfl) ?_; conv => whnf) | (refine qz ?_; conv => whnf) | (refine qc (hd) ?_; conv => whnf) | (refine qc (hk) ?_; conv => whnf) | (refine qc (hc) ?_; conv => whnf) | (refine qc (hw) ?_; conv => whnf) | (refine qst ?_; conv => whnf) | (refine qr (uQ rfl rfl rfl rfl) ?_; conv => whnf) | (refine qr (yU rfl rfl rfl rfl rfl rfl) ?_; conv => whnf) | (refine qp (zW rfl rfl rfl rfl rfl rfl rfl rfl) ?_; conv => whnf) | (refine qdr ?_; conv => whnf))
 exact xS rfl rfl rfl rfl trivial rfl
end Go.Proofs.YtodckioppgjbdaaGreatDoor.AM
namespace Go.Proofs.YtodckioppgjbdaaGreatDoor.AM
open Go Go.RowKit
theorem jh {t : ByteArray} {i j : Nat} : (t.extract i j).size ≤ t.size := by rw [ByteArray.size_extract]; omega
def zC (t : ByteArray) (c : Nat) : Nat → List ByteArray × Nat
 | 0 => ([], 0)
 | i + 1 => if h : i < t.size then (if (t[i]).toNat = c then ((zC t c i).1 ++ [t.extract (zC t c i).2 i], i + 1) else zC t c i) else zC t c i
def yj (t : ByteArray) (c : Nat) : List ByteArray := (zC t c t.size).1 ++ [t.extract (zC t c t.size).2 t.size]
theorem qj {t : ByteArray} {c i : Nat} (h : i < t.size) : zC t c (i + 1) = if (t[i]).toNat = c then ((zC t c i).1 ++ [t.extract (zC t c i).2 i], i + 1) else zC t c i := by rw [zC, dif_pos h]
theorem aBI {t : ByteArray} {c : Nat} : ∀ {i : Nat}, i ≤ t.size → (zC t c i).2 ≤ i ∧ (zC t c i).1.length ≤ i ∧ ∀ x ∈ (zC t c i).1, x.size ≤ t.size
 | 0, _ => ⟨Nat.le_refl _, Nat.le_refl _, fun x hx => by cases hx⟩
 | i + 1, h => by
  obtain ⟨h1, h2, h3⟩ := aBI (t := t) (c := c) (i := i) (by omega)
  rw [qj (by omega)]
  split
  · refine ⟨Nat.le_refl _, by simp; omega, fun x hx => ?_⟩
    simp only [List.mem_append, List.mem_singleton] at hx
    rcases hx with hx | rfl
    · exact h3 x hx
    · exact jh
  · exact ⟨by omega, by omega, h3⟩
theorem aBH {t : ByteArray} {c : Nat} : 1 ≤ (yj t c).length ∧ (yj t c).length ≤ t.size + 1 ∧ ∀ x ∈ yj t c, x.size ≤ t.size := by
 obtain ⟨h1, h2, h3⟩ := aBI (t := t) (c := c) (i := t.size) (Nat.le_refl _)
 unfold yj
 refine ⟨by simp, by simp; omega, fun x hx => ?_⟩
 simp only [List.mem_append, List.mem_singleton] at hx
 rcases hx with hx | rfl
 · exact h3 x hx
 · exact jh
def uG (t : ByteArray) : Nat → List ByteArray × Nat
 | 0 => ([], 0)
 | i + 1 => if (if h : i < t.size then (t[i]).toNat = 32 else True) then (if (uG t i).2 < i then (uG t i).1 ++ [t.extract (uG t i).2 i] else (uG t i).1, i + 1) else uG t i
def vZ (t : ByteArray) : List ByteArray := (uG t (t.size + 1)).1
theorem aBC {t : ByteArray} {i : Nat} (h : ∀ h : i < t.size, (t[i]).toNat = 32) : uG t (i + 1) = (if (uG t i).2 < i then (uG t i).1 ++ [t.extract (uG t i).2 i] else (uG t i).1, i + 1) := by
 rw [uG]
 have : (if h : i < t.size then (t[i]).toNat = 32 else True) := by
  by_cases hi : i < t.size
  · rw [dif_pos hi]; exact h hi
  · rw [dif_neg hi]; trivial
 exact if_pos this
theorem aFF {t : ByteArray} {i : Nat} (hi : i < t.size) (h : (t[i]).toNat ≠ 32) : uG t (i + 1) = uG t i := by
 rw [uG]
 have : ¬ (if h : i < t.size then (t[i]).toNat = 32 else True) := by rw [dif_pos hi]; exact h
 exact if_neg this
theorem aDF {t : ByteArray} : ∀ {i : Nat}, i ≤ t.size + 1 → (uG t i).2 ≤ i ∧ (uG t i).1.length ≤ i ∧ ∀ x ∈ (uG t i).1, x.size ≤ t.size
 | 0, _ => ⟨Nat.le_refl _, Nat.le_refl _, fun x hx => by cases hx⟩
 | i + 1, h => by
  obtain ⟨h1, h2, h3⟩ := aDF (t := t) (i := i) (by omega)
  by_cases hc : ∀ h : i < t.size, (t[i]).toNat = 32
  · rw [aBC hc]
    refine ⟨Nat.le_refl _, ?_, ?_⟩
    · dsimp only; split
      · simp; omega
      · omega
    · dsimp only; split
      · intro x hx
        simp only [List.mem_append, List.mem_singleton] at hx
        rcases hx with hx | rfl
        · exact h3 x hx
        · exact jh
      · exact h3
  · obtain ⟨hi, hn⟩ := Classical.not_forall.1 hc
    rw [aFF hi hn]
    exact ⟨by omega, by omega, h3⟩
theorem aGI {t : ByteArray} : (vZ t).length ≤ t.size + 1 ∧ ∀ x ∈ vZ t, x.size ≤ t.size := (aDF (Nat.le_refl _)).2
def zZ (t : ByteArray) : Nat → Option Nat
 | 0 => some 0
 | i + 1 => if h : i < t.size then (match zZ t i with | none => none | some n => if 48 ≤ (t[i]).toNat ∧ (t[i]).toNat ≤ 57 then some (n * 10 + (t[i]).toNat - 48) else none) else none
def uY (t : ByteArray) : Bool := if h : 0 < t.size then decide ((t[0]).toNat = 45) else false
def yH (t : ByteArray) : ByteArray := if uY t = true then t.extract 1 t.size else t
def y9 (t : ByteArray) : Int × Bool :=
 if (yH t).size = 0 ∨ 18 < (yH t).size then (0, false)
 else if (∃ h : 0 < (yH t).size, ((yH t)[0]).toNat = 48) ∧ (1 < (yH t).size ∨ uY t = true) then (0, false)
 else match zZ (yH t) (yH t).size with
  | none => (0, false)
  | some n => (if uY t = true then -(n : Int) else n, true)
theorem aBO {t : ByteArray} : ∀ {i n : Nat}, zZ t i = some n → n < 10 ^ i
 | 0, n, h => by simp [zZ] at h; subst h; simp
 | i + 1, n, h => by
  unfold zZ at h
  split at h
  · rename_i hi
    cases hm : zZ t i with
    | none => rw [hm] at h; cases h
    | some m =>
     rw [hm] at h
     dsimp only at h
     split at h
     · have := aBO hm
       simp only [Option.some.injEq] at h
       rw [Nat.pow_succ]; omega
     · cases h
  · cases h
def zO (t : ByteArray) : ByteArray × Int × Bool := match yj t 61 with
 | [a, b] => (a, (y9 b).1, (y9 b).2)
 | _ => (⟨#[]⟩, 0, false)
end Go.Proofs.YtodckioppgjbdaaGreatDoor.AM
