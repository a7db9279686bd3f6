/- Texts of the machine over data, folded. -/
import Derived.Test.YtkfllfhcjegfoaaGreatDoorKq6
import Derived.Test.YtkfllfhcjegfoaaGreatDoorKq11
import Derived.Test.YtkfllfhcjegfoaaGreatDoorKq12
set_option linter.unusedVariables false
set_option linter.unusedSimpArgs false
set_option maxRecDepth 100000
namespace Go.Proofs.YtkfllfhcjegfoaaGreatDoor.AM
open Go Go.RowKit
section
variable {P : Program}
theorem aBx {ti : TypeId} {x : Operand} {c : Value} (h : aHR P ti = true) : zk P .eql ti x (.const c) .nilIface .nilIface (.bool true) := fun w => by
 unfold aHR at h
 split at h
 · rename_i ms hu
   have h1 : ∀ d : Nat, (Op.equalIn (d + 1) ti .nilIface .nilIface).run P w = .ok true w := fun d => by simp [Op.equalIn, run_underlying hu]
   simp [eqGuard, binOp, Op.equal, Op.maxDepth, h1 9999]
 · cases h
end
attribute [local irreducible] xM xN xW yF yL Pre ACG
abbrev clA (ws : List AV) (dn ph fr hd vr tr fa : Int) (mp : List AV) : AV := .agg [.lst 5 ws, .v (.int .i64 dn), .v (.int .i64 ph), .v (.int .i64 fr), .v (.int .i64 hd), .v (.int .i64 vr), .v (.int .i64 tr), .v (.int .i64 fa), .lst 2 mp]
section
variable {kind frm : Int} {nm src key : ByteArray} {es : List AV}
theorem aAI : AC Tryz.prog 155 [.agg [.v (.int .i64 kind), .v (.string nm), .v (.string src), .v (.string key), .lst 3 es], .v (.int .i64 frm)] ⟨.agg [.v (.int .i64 kind), .v (.int .i64 frm), .v (.string nm), .v (.string key), .lst 3 es], []⟩ := by
 refine qrf Tryz.func155 Tryz.ntmps155 Tryz.results155 ?_; conv => whnf
 repeat ((first | refine qz ?_ | refine qst ?_); conv => whnf)
 exact uX (x := .agg [.v (.int .i64 kind), .v (.int .i64 frm), .v (.string nm), .v (.string key), .lst 3 es]) rfl rfl rfl rfl trivial
end
section
variable {st ws keys : List AV} {mp out : List Ent} {d : Nat} {c ph fr vr tr fa : Int} {h : Nat} {kind : Int} {nm src key : ByteArray} {es : List AV}
theorem aOt (hs : st.length ≤ maxLen) (hw : ws[d]? = some (.agg [.v (.int .i64 kind), .v (.string nm), .v (.string src), .v (.string key), .lst 3 es])) (hh : h < st.length) (hv : 1 ≤ vr) (hv2 : vr ≤ 1000000)
 (hV : AC Tryz.prog 156 [.lst 2 st, .agg [.v (.int .i64 kind), .v (.int .i64 fr), .v (.string nm), .v (.string key), .lst 3 es], .v (.int .i64 ((h : Int) + 1))] ⟨.tup [.agg [zI, .lst 2 []], uN c], []⟩) :
 AC Tryz.prog 136 [.lst 2 st, clA ws (d : Int) ph fr ((h : Int) + 1) vr tr fa (mp.map xP)] ⟨.v (.bool (false)), []⟩ := by
 unfold maxLen at hs
 have hO := aAI (kind := kind) (frm := fr) (nm := nm) (src := src) (key := key) (es := es)
 refine qrf Tryz.func136 Tryz.ntmps136 Tryz.results136 ?_; conv => whnf
 repeat ((refine qz ?_; conv => whnf))
 refine .inr ⟨by kernel_rfl, wV (by kernel_rfl), ?_⟩
 repeat (first | refine xK (kZ rfl) rfl rfl rfl (.inl rfl) (by kernel_rfl) ?_ | refine xK (xk hw rfl rfl rfl) rfl rfl rfl (.inr rfl) (by kernel_rfl) ?_ | refine xK (kF rfl rfl rfl) rfl rfl rfl (.inl rfl) (by kernel_rfl) ?_ | refine xK (qV rfl rfl rfl rfl rfl) rfl rfl rfl (.inl rfl) (by kernel_rfl) ?_ | refine xK (zi rfl rfl rfl rfl rfl rfl rfl) rfl rfl rfl (.inr rfl) (by kernel_rfl) ?_ | refine xK (aBN rfl rfl rfl rfl) rfl rfl rfl (.inr rfl) (by kernel_rfl) ?_ | refine yQ (uy hO rfl rfl rfl (by first | exact trivial | exact ⟨⟨rfl, rfl, rfl⟩, trivial⟩ | exact ⟨⟨rfl, rfl, rfl⟩, ⟨rfl, rfl, rfl⟩, trivial⟩ | exact ⟨⟨rfl, rfl, rfl⟩, ⟨rfl, rfl, rfl⟩, ⟨rfl, rfl, rfl⟩, trivial⟩) rfl rfl rfl) wu rfl rfl (by kernel_rfl) ?_ | refine yQ (uy hV rfl rfl rfl (by first | exact trivial | exact ⟨⟨rfl, rfl, rfl⟩, trivial⟩ | exact ⟨⟨rfl, rfl, rfl⟩, ⟨rfl, rfl, rfl⟩, trivial⟩ | exact ⟨⟨rfl, rfl, rfl⟩, ⟨rfl, rfl, rfl⟩, ⟨rfl, rfl, rfl⟩, trivial⟩) rfl rfl rfl) wu rfl rfl (by kernel_rfl) ?_ | refine yQ (aAN rfl rfl) vO rfl rfl (by kernel_rfl) ?_ | refine xK (qK rfl rfl) rfl rfl rfl (.inl rfl) (by kernel_rfl) ?_ | refine yQ (wT rfl rfl rfl rfl rfl rfl rfl) vO rfl rfl (by kernel_rfl) ?_ | refine yQ (jS rfl) aAu rfl rfl (by kernel_rfl) ?_ | refine qL ?_)
 conv => whnf
 repeat ((first | refine qp (aCB (aBB (by kernel_rfl)) rfl rfl rfl rfl rfl) ?_ | refine qp (xB (aBx (by kernel_rfl)) rfl rfl rfl) ?_ | refine qz ?_); conv => whnf)
 exact xA rfl trivial
theorem aO1 (hs : st.length ≤ maxLen) (hw : ws[d]? = some (.agg [.v (.int .i64 kind), .v (.string nm), .v (.string src), .v (.string key), .lst 3 es])) (hh : h < st.length) (hv : 1 ≤ vr) (hv2 : vr ≤ 1000000)
 (hV : AC Tryz.prog 156 [.lst 2 st, .agg [.v (.int .i64 kind), .v (.int .i64 fr), .v (.string nm), .v (.string key), .lst 3 es], .v (.int .i64 ((h : Int) + 1))] ⟨.tup [.agg [zI, .lst 2 []], .ifc 272 (.mix [uN c, .own 0])], [⟨9, 1, keys⟩]⟩) :
 AC Tryz.prog 136 [.lst 2 st, clA ws (d : Int) ph fr ((h : Int) + 1) vr tr fa (mp.map xP)] ⟨.v (.bool (false)), []⟩ := by
 unfold maxLen at hs
 have hO := aAI (kind := kind) (frm := fr) (nm := nm) (src := src) (key := key) (es := es)
 refine qrf Tryz.func136 Tryz.ntmps136 Tryz.results136 ?_; conv => whnf
 repeat ((refine qz ?_; conv => whnf))
 refine .inr ⟨by kernel_rfl, wV (by kernel_rfl), ?_⟩
 repeat (first | refine xK (kZ rfl) rfl rfl rfl (.inl rfl) (by kernel_rfl) ?_ | refine xK (xk hw rfl rfl rfl) rfl rfl rfl (.inr rfl) (by kernel_rfl) ?_ | refine xK (kF rfl rfl rfl) rfl rfl rfl (.inl rfl) (by kernel_rfl) ?_ | refine xK (qV rfl rfl rfl rfl rfl) rfl rfl rfl (.inl rfl) (by kernel_rfl) ?_ | refine xK (zi rfl rfl rfl rfl rfl rfl rfl) rfl rfl rfl (.inr rfl) (by kernel_rfl) ?_ | refine xK (aBN rfl rfl rfl rfl) rfl rfl rfl (.inr rfl) (by kernel_rfl) ?_ | refine yQ (uy hO rfl rfl rfl (by first | exact trivial | exact ⟨⟨rfl, rfl, rfl⟩, trivial⟩ | exact ⟨⟨rfl, rfl, rfl⟩, ⟨rfl, rfl, rfl⟩, trivial⟩ | exact ⟨⟨rfl, rfl, rfl⟩, ⟨rfl, rfl, rfl⟩, ⟨rfl, rfl, rfl⟩, trivial⟩) rfl rfl rfl) wu rfl rfl (by kernel_rfl) ?_ | refine yQ (uy hV rfl rfl rfl (by first | exact trivial | exact ⟨⟨rfl, rfl, rfl⟩, trivial⟩ | exact ⟨⟨rfl, rfl, rfl⟩, ⟨rfl, rfl, rfl⟩, trivial⟩ | exact ⟨⟨rfl, rfl, rfl⟩, ⟨rfl, rfl, rfl⟩, ⟨rfl, rfl, rfl⟩, trivial⟩) rfl rfl rfl) wu rfl rfl (by kernel_rfl) ?_ | refine yQ (aAN rfl rfl) vO rfl rfl (by kernel_rfl) ?_ | refine xK (qK rfl rfl) rfl rfl rfl (.inl rfl) (by kernel_rfl) ?_ | refine yQ (wT rfl rfl rfl rfl rfl rfl rfl) vO rfl rfl (by kernel_rfl) ?_ | refine yQ (jS rfl) aAu rfl rfl (by kernel_rfl) ?_ | refine qL ?_)
 conv => whnf
 repeat ((first | refine qp (aCB (aBB (by kernel_rfl)) rfl rfl rfl rfl rfl) ?_ | refine qp (xB (aBx (by kernel_rfl)) rfl rfl rfl) ?_ | refine qz ?_); conv => whnf)
 exact xA rfl trivial
theorem aMl (hs : st.length ≤ maxLen) (hw : ws[d]? = some (.agg [.v (.int .i64 kind), .v (.string nm), .v (.string src), .v (.string key), .lst 3 es])) (hh : h < st.length) (hv : 1 ≤ vr) (hv2 : vr ≤ 1000000) (hf : fa ≠ 0)
 (hV : AC Tryz.prog 156 [.lst 2 st, .agg [.v (.int .i64 kind), .v (.int .i64 fr), .v (.string nm), .v (.string key), .lst 3 es], .v (.int .i64 ((h : Int) + 1))] ⟨.tup [.agg [zI, .lst 2 (out.map xP)], .v .nilIface], []⟩) :
 AC Tryz.prog 136 [.lst 2 st, clA ws (d : Int) ph fr ((h : Int) + 1) vr tr fa (mp.map xP)] ⟨.v (.bool (false)), []⟩ := by
 unfold maxLen at hs
 have hO := aAI (kind := kind) (frm := fr) (nm := nm) (src := src) (key := key) (es := es)
 refine qrf Tryz.func136 Tryz.ntmps136 Tryz.results136 ?_; conv => whnf
 repeat ((refine qz ?_; conv => whnf))
 refine .inr ⟨by kernel_rfl, wV (by kernel_rfl), ?_⟩
 repeat (first | refine xK (kZ rfl) rfl rfl rfl (.inl rfl) (by kernel_rfl) ?_ | refine xK (xk hw rfl rfl rfl) rfl rfl rfl (.inr rfl) (by kernel_rfl) ?_ | refine xK (kF rfl rfl rfl) rfl rfl rfl (.inl rfl) (by kernel_rfl) ?_ | refine xK (qV rfl rfl rfl rfl rfl) rfl rfl rfl (.inl rfl) (by kernel_rfl) ?_ | refine xK (zi rfl rfl rfl rfl rfl rfl rfl) rfl rfl rfl (.inr rfl) (by kernel_rfl) ?_ | refine xK (aBN rfl rfl rfl rfl) rfl rfl rfl (.inr rfl) (by kernel_rfl) ?_ | refine yQ (uy hO rfl rfl rfl (by first | exact trivial | exact ⟨⟨rfl, rfl, rfl⟩, trivial⟩ | exact ⟨⟨rfl, rfl, rfl⟩, ⟨rfl, rfl, rfl⟩, trivial⟩ | exact ⟨⟨rfl, rfl, rfl⟩, ⟨rfl, rfl, rfl⟩, ⟨rfl, rfl, rfl⟩, trivial⟩) rfl rfl rfl) wu rfl rfl (by kernel_rfl) ?_ | refine yQ (uy hV rfl rfl rfl (by first | exact trivial | exact ⟨⟨rfl, rfl, rfl⟩, trivial⟩ | exact ⟨⟨rfl, rfl, rfl⟩, ⟨rfl, rfl, rfl⟩, trivial⟩ | exact ⟨⟨rfl, rfl, rfl⟩, ⟨rfl, rfl, rfl⟩, ⟨rfl, rfl, rfl⟩, trivial⟩) rfl rfl rfl) wu rfl rfl (by kernel_rfl) ?_ | refine yQ (aAN rfl rfl) vO rfl rfl (by kernel_rfl) ?_ | refine xK (qK rfl rfl) rfl rfl rfl (.inl rfl) (by kernel_rfl) ?_ | refine yQ (wT rfl rfl rfl rfl rfl rfl rfl) vO rfl rfl (by kernel_rfl) ?_ | refine yQ (jS rfl) aAu rfl rfl (by kernel_rfl) ?_ | refine qL ?_)
 conv => whnf
 repeat ((first | refine qp (aCB (aBB (by kernel_rfl)) rfl rfl rfl rfl rfl) ?_ | refine qp (xB (aBx (by kernel_rfl)) rfl rfl rfl) ?_ | refine qz ?_); conv => whnf)
 exact xA rfl trivial
theorem aND (hs : st.length ≤ maxLen) (hw : ws[d]? = some (.agg [.v (.int .i64 kind), .v (.string nm), .v (.string src), .v (.string key), .lst 3 es])) (hh : h < st.length) (hv : 1 ≤ vr) (hv2 : vr ≤ 1000000) (hf : fa = 0) (hm : mp.length ≤ maxLen) (hm2 : out.length ≤ maxLen)
 (hV : AC Tryz.prog 156 [.lst 2 st, .agg [.v (.int .i64 kind), .v (.int .i64 fr), .v (.string nm), .v (.string key), .lst 3 es], .v (.int .i64 ((h : Int) + 1))] ⟨.tup [.agg [zI, .lst 2 (out.map xP)], .v .nilIface], []⟩) :
 AC Tryz.prog 136 [.lst 2 st, clA ws (d : Int) ph fr ((h : Int) + 1) vr tr fa (mp.map xP)] ⟨.v (.bool (decide (mp = out))), []⟩ := by
 have hE := aCa (es := mp) (es' := out) hm hm2
 unfold maxLen at hs
 have hO := aAI (kind := kind) (frm := fr) (nm := nm) (src := src) (key := key) (es := es)
 refine qrf Tryz.func136 Tryz.ntmps136 Tryz.results136 ?_; conv => whnf
 repeat ((refine qz ?_; conv => whnf))
 refine .inr ⟨by kernel_rfl, wV (by kernel_rfl), ?_⟩
 repeat (first | refine xK (kZ rfl) rfl rfl rfl (.inl rfl) (by kernel_rfl) ?_ | refine xK (xk hw rfl rfl rfl) rfl rfl rfl (.inr rfl) (by kernel_rfl) ?_ | refine xK (kF rfl rfl rfl) rfl rfl rfl (.inl rfl) (by kernel_rfl) ?_ | refine xK (qV rfl rfl rfl rfl rfl) rfl rfl rfl (.inl rfl) (by kernel_rfl) ?_ | refine xK (zi rfl rfl rfl rfl rfl rfl rfl) rfl rfl rfl (.inr rfl) (by kernel_rfl) ?_ | refine xK (aBN rfl rfl rfl rfl) rfl rfl rfl (.inr rfl) (by kernel_rfl) ?_ | refine yQ (uy hO rfl rfl rfl (by first | exact trivial | exact ⟨⟨rfl, rfl, rfl⟩, trivial⟩ | exact ⟨⟨rfl, rfl, rfl⟩, ⟨rfl, rfl, rfl⟩, trivial⟩ | exact ⟨⟨rfl, rfl, rfl⟩, ⟨rfl, rfl, rfl⟩, ⟨rfl, rfl, rfl⟩, trivial⟩) rfl rfl rfl) wu rfl rfl (by kernel_rfl) ?_ | refine yQ (uy hV rfl rfl rfl (by first | exact trivial | exact ⟨⟨rfl, rfl, rfl⟩, trivial⟩ | exact ⟨⟨rfl, rfl, rfl⟩, ⟨rfl, rfl, rfl⟩, trivial⟩ | exact ⟨⟨rfl, rfl, rfl⟩, ⟨rfl, rfl, rfl⟩, ⟨rfl, rfl, rfl⟩, trivial⟩) rfl rfl rfl) wu rfl rfl (by kernel_rfl) ?_ | refine yQ (aAN rfl rfl) vO rfl rfl (by kernel_rfl) ?_ | refine xK (qK rfl rfl) rfl rfl rfl (.inl rfl) (by kernel_rfl) ?_ | refine yQ (wT rfl rfl rfl rfl rfl rfl rfl) vO rfl rfl (by kernel_rfl) ?_ | refine yQ (jS rfl) aAu rfl rfl (by kernel_rfl) ?_ | refine qL ?_)
 conv => whnf
 repeat ((first | refine qp (aCB (aBB (by kernel_rfl)) rfl rfl rfl rfl rfl) ?_ | refine qp (xB (aBx (by kernel_rfl)) rfl rfl rfl) ?_ | refine qz ?_ | refine qc (hE) ?_); conv => whnf)
 exact xA rfl trivial
theorem aNw (hs : st.length ≤ maxLen) (hw : ws[d]? = some (.agg [.v (.int .i64 kind), .v (.string nm), .v (.string src), .v (.string key), .lst 3 es])) (hh : h < st.length) (hv : 1 ≤ vr) (hv2 : vr ≤ 1000000) (hf : fa ≠ 1)
 (hV : AC Tryz.prog 156 [.lst 2 st, .agg [.v (.int .i64 kind), .v (.int .i64 fr), .v (.string nm), .v (.string key), .lst 3 es], .v (.int .i64 ((h : Int) + 1))] ⟨.tup [.agg [.v (.int .i64 1), .lst 2 []], .v .nilIface], []⟩) :
 AC Tryz.prog 136 [.lst 2 st, clA ws (d : Int) ph fr ((h : Int) + 1) vr tr fa (mp.map xP)] ⟨.v (.bool (false)), []⟩ := by
 unfold maxLen at hs
 have hO := aAI (kind := kind) (frm := fr) (nm := nm) (src := src) (key := key) (es := es)
 refine qrf Tryz.func136 Tryz.ntmps136 Tryz.results136 ?_; conv => whnf
 repeat ((refine qz ?_; conv => whnf))
 refine .inr ⟨by kernel_rfl, wV (by kernel_rfl), ?_⟩
 repeat (first | refine xK (kZ rfl) rfl rfl rfl (.inl rfl) (by kernel_rfl) ?_ | refine xK (xk hw rfl rfl rfl) rfl rfl rfl (.inr rfl) (by kernel_rfl) ?_ | refine xK (kF rfl rfl rfl) rfl rfl rfl (.inl rfl) (by kernel_rfl) ?_ | refine xK (qV rfl rfl rfl rfl rfl) rfl rfl rfl (.inl rfl) (by kernel_rfl) ?_ | refine xK (zi rfl rfl rfl rfl rfl rfl rfl) rfl rfl rfl (.inr rfl) (by kernel_rfl) ?_ | refine xK (aBN rfl rfl rfl rfl) rfl rfl rfl (.inr rfl) (by kernel_rfl) ?_ | refine yQ (uy hO rfl rfl rfl (by first | exact trivial | exact ⟨⟨rfl, rfl, rfl⟩, trivial⟩ | exact ⟨⟨rfl, rfl, rfl⟩, ⟨rfl, rfl, rfl⟩, trivial⟩ | exact ⟨⟨rfl, rfl, rfl⟩, ⟨rfl, rfl, rfl⟩, ⟨rfl, rfl, rfl⟩, trivial⟩) rfl rfl rfl) wu rfl rfl (by kernel_rfl) ?_ | refine yQ (uy hV rfl rfl rfl (by first | exact trivial | exact ⟨⟨rfl, rfl, rfl⟩, trivial⟩ | exact ⟨⟨rfl, rfl, rfl⟩, ⟨rfl, rfl, rfl⟩, trivial⟩ | exact ⟨⟨rfl, rfl, rfl⟩, ⟨rfl, rfl, rfl⟩, ⟨rfl, rfl, rfl⟩, trivial⟩) rfl rfl rfl) wu rfl rfl (by kernel_rfl) ?_ | refine yQ (aAN rfl rfl) vO rfl rfl (by kernel_rfl) ?_ | refine xK (qK rfl rfl) rfl rfl rfl (.inl rfl) (by kernel_rfl) ?_ | refine yQ (wT rfl rfl rfl rfl rfl rfl rfl) vO rfl rfl (by kernel_rfl) ?_ | refine yQ (jS rfl) aAu rfl rfl (by kernel_rfl) ?_ | refine qL ?_)
 conv => whnf
 repeat ((first | refine qp (aCB (aBB (by kernel_rfl)) rfl rfl rfl rfl rfl) ?_ | refine qp (xB (aBx (by kernel_rfl)) rfl rfl rfl) ?_ | refine qz ?_); conv => whnf)
 exact xA rfl trivial
theorem aM4 (hs : st.length ≤ maxLen) (hw : ws[d]? = some (.agg [.v (.int .i64 kind), .v (.string nm), .v (.string src), .v (.string key), .lst 3 es])) (hh : h < st.length) (hv : 1 ≤ vr) (hv2 : vr ≤ 1000000) (hf : fa = 1) (hm : mp.length ≤ maxLen)
 (hV : AC Tryz.prog 156 [.lst 2 st, .agg [.v (.int .i64 kind), .v (.int .i64 fr), .v (.string nm), .v (.string key), .lst 3 es], .v (.int .i64 ((h : Int) + 1))] ⟨.tup [.agg [.v (.int .i64 1), .lst 2 (([] : List Ent).map xP)], .v .nilIface], []⟩) :
 AC Tryz.prog 136 [.lst 2 st, clA ws (d : Int) ph fr ((h : Int) + 1) vr tr fa (mp.map xP)] ⟨.v (.bool (decide (mp = []))), []⟩ := by
 have hE := aCa (es := mp) (es' := []) hm (by unfold maxLen; simp)
 unfold maxLen at hs
 have hO := aAI (kind := kind) (frm := fr) (nm := nm) (src := src) (key := key) (es := es)
 refine qrf Tryz.func136 Tryz.ntmps136 Tryz.results136 ?_; conv => whnf
 repeat ((refine qz ?_; conv => whnf))
 refine .inr ⟨by kernel_rfl, wV (by kernel_rfl), ?_⟩
 repeat (first | refine xK (kZ rfl) rfl rfl rfl (.inl rfl) (by kernel_rfl) ?_ | refine xK (xk hw rfl rfl rfl) rfl rfl rfl (.inr rfl) (by kernel_rfl) ?_ | refine xK (kF rfl rfl rfl) rfl rfl rfl (.inl rfl) (by kernel_rfl) ?_ | refine xK (qV rfl rfl rfl rfl rfl) rfl rfl rfl (.inl rfl) (by kernel_rfl) ?_ | refine xK (zi rfl rfl rfl rfl rfl rfl rfl) rfl rfl rfl (.inr rfl) (by kernel_rfl) ?_ | refine xK (aBN rfl rfl rfl rfl) rfl rfl rfl (.inr rfl) (by kernel_rfl) ?_ | refine yQ (uy hO rfl rfl rfl (by first | exact trivial | exact ⟨⟨rfl, rfl, rfl⟩, trivial⟩ | exact ⟨⟨rfl, rfl, rfl⟩, ⟨rfl, rfl, rfl⟩, trivial⟩ | exact ⟨⟨rfl, rfl, rfl⟩, ⟨rfl, rfl, rfl⟩, ⟨rfl, rfl, rfl⟩, trivial⟩) rfl rfl rfl) wu rfl rfl (by kernel_rfl) ?_ | refine yQ (uy hV rfl rfl rfl (by first | exact trivial | exact ⟨⟨rfl, rfl, rfl⟩, trivial⟩ | exact ⟨⟨rfl, rfl, rfl⟩, ⟨rfl, rfl, rfl⟩, trivial⟩ | exact ⟨⟨rfl, rfl, rfl⟩, ⟨rfl, rfl, rfl⟩, ⟨rfl, rfl, rfl⟩, trivial⟩) rfl rfl rfl) wu rfl rfl (by kernel_rfl) ?_ | refine yQ (aAN rfl rfl) vO rfl rfl (by kernel_rfl) ?_ | refine xK (qK rfl rfl) rfl rfl rfl (.inl rfl) (by kernel_rfl) ?_ | refine yQ (wT rfl rfl rfl rfl rfl rfl rfl) vO rfl rfl (by kernel_rfl) ?_ | refine yQ (jS rfl) aAu rfl rfl (by kernel_rfl) ?_ | refine qL ?_)
 conv => whnf
 repeat ((first | refine qp (aCB (aBB (by kernel_rfl)) rfl rfl rfl rfl rfl) ?_ | refine qp (xB (aBx (by kernel_rfl)) rfl rfl rfl) ?_ | refine qz ?_ | refine qc (hE) ?_); conv => whnf)
 exact xA rfl trivial
theorem aNW {ws0 mp0 : List AV} {dn hd : Int} (hs : st.length ≤ maxLen) (hb : ¬ (1 ≤ hd ∧ hd ≤ (st.length : Int))) : AC Tryz.prog 136 [.lst 2 st, clA ws0 dn ph fr hd vr tr fa mp0] ⟨.v (.bool false), []⟩ := by
 unfold maxLen at hs
 by_cases hd < 1
 all_goals (
  refine qrf Tryz.func136 Tryz.ntmps136 Tryz.results136 ?_; conv => whnf
  repeat ((refine qz ?_; conv => whnf))
  exact xA rfl trivial)
theorem aMY {ws0 mp0 : List AV} {dn hd : Int} (hs : st.length ≤ maxLen) (hb : 1 ≤ hd ∧ hd ≤ (st.length : Int)) (hv : ¬ (1 ≤ vr ∧ vr ≤ 1000000)) : AC Tryz.prog 136 [.lst 2 st, clA ws0 dn ph fr hd vr tr fa mp0] ⟨.v (.bool false), []⟩ := by
 unfold maxLen at hs
 by_cases vr < 1
 all_goals (
  refine qrf Tryz.func136 Tryz.ntmps136 Tryz.results136 ?_; conv => whnf
  repeat ((refine qz ?_; conv => whnf))
  exact xA rfl trivial)
end
end Go.Proofs.YtkfllfhcjegfoaaGreatDoor.AM
