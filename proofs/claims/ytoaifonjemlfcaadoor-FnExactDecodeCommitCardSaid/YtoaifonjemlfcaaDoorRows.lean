/-
  NARROWER THAN 'FOR EVERY INPUT', by the rows' own cells (each row's printed sentence says how): FnExactTakeNumber: laid · FnExactDecodeCommit: laid · FnExactDecodeBase: laid.
  DERIVED. THE GIVEN ROWS OF THIS SEAT. 3 by the template 'for every input the law returns true; each argument reads behind the call as it read before'; 0 by the template 'total and deterministic' (their statements: YtoaifonjemlfcaaDoorTotals.lean).
  GIVEN WITH THE SEED: the statements are not yours to turn. If you find one false, say at which input.
  Laid BY PROGRAM, IN A SANDBOX (cutbox-rows.mjs): the forced cells as the released guide's own fill.sh prints them over the translation 1152861ecd5c11e2… (all of the seat's roots in one cut). By AI agents, Wed Nov 11 2026. No macro, syntax, notation, axiom, sorry.
-/
import Derived.Test.YtoaifonjemlfcaaDoorChecked
import GoSem.Claim
import GoSem.ClaimJoined
import GoSem.ClaimMapViews
import Derived.JoinedTies
import Derived.KernelRfl
namespace Go.Proofs.YtoaifonjemlfcaaDoor
/- THE CELL 'sum', in the pinned program and in every row, IS THE sha256 OF THE DUMP (.gsa) THAT YtoaifonjemlfcaaDoorProg.lean LOADS. Nothing in Lean hashes anything: it is a label: what it is worth is what the hold of that sum in a sandbox is worth. -/
noncomputable def Tryd.pinned : Pinned := { name := "ytoaifonjemlfcaadoor", sum := "1152861ecd5c11e2782d8949e4f3a2d42e0ca8daf98e2ee8f67389e43069c689", checked := Tryd.checked }
namespace Rows
def none {H : Type} : Left H := { results := [], args := [] }

/- WHAT THE LISTED PACKAGE-LEVEL VARIABLES READ AS WHEN THE CALL BEGINS. Each datum BY PROGRAM (the guide's laid-datum.mjs) off the statement by which the dump's own 'gosem.cut.vars' lays the variable. In a bare row this is a premise. The card (YtoaifonjemlfcaaDoorCards.lean) ties it to the program's text. -/
def laid_loop_example_g00737_impl_leastOfSizes {H : Type} : DataW H := .agg [.lit (.int .i64 0), .lit (.int .i64 128), .lit (.int .i64 16384), .lit (.int .i64 2097152)]

/-- 'laws.FnExactTakeNumber': WHATEVER THE INPUT: true; the input reads as it did. -/
def fnExactTakeNumberSpec : ChangeSpec := { name := "fnExactTakeNumber", vars := ["loop.example/g00737/impl.leastOfSizes"], fn := fun _ => fun
  | [d1, d2, g1] => { results := [.lit (.bool true)], args := [d1, d2], vars := [g1] }
  | _ => none }
def fnExactTakeNumberRow : OpenClaim := { program := "ytoaifonjemlfcaadoor", sum := "1152861ecd5c11e2782d8949e4f3a2d42e0ca8daf98e2ee8f67389e43069c689", func := "loop.example/g00737/laws.FnExactTakeNumber", spec := "fnExactTakeNumber", named := ["loop.example/g00737/impl.leastOfSizes"], apart := false, laid := [("loop.example/g00737/impl.leastOfSizes", laid_loop_example_g00737_impl_leastOfSizes)] }
def FnExactTakeNumberSaid : Prop := fnExactTakeNumberRow.holds Tryd.pinned (OpenSpec.ofChange fnExactTakeNumberSpec)

/-- ITS FALSE NEIGHBOUR: 'it returns false'. Refute it at one input. -/
def fnExactTakeNumberWrong : ChangeSpec := { name := "fnExactTakeNumber", vars := ["loop.example/g00737/impl.leastOfSizes"], fn := fun _ => fun
  | [d1, d2, g1] => { results := [.lit (.bool false)], args := [d1, d2], vars := [g1] }
  | _ => none }
def FnExactTakeNumberWrongFalsely : Prop := fnExactTakeNumberRow.holds Tryd.pinned (OpenSpec.ofChange fnExactTakeNumberWrong)

/-- 'laws.FnExactDecodeCommit': WHATEVER THE INPUT: true; the input reads as it did. -/
def fnExactDecodeCommitSpec : ChangeSpec := { name := "fnExactDecodeCommit", vars := ["loop.example/g00737/impl.leastOfSizes"], fn := fun _ => fun
  | [d, g1] => { results := [.lit (.bool true)], args := [d], vars := [g1] }
  | _ => none }
def fnExactDecodeCommitRow : OpenClaim := { program := "ytoaifonjemlfcaadoor", sum := "1152861ecd5c11e2782d8949e4f3a2d42e0ca8daf98e2ee8f67389e43069c689", func := "loop.example/g00737/laws.FnExactDecodeCommit", spec := "fnExactDecodeCommit", unfollowed := true, recurses := true, named := ["loop.example/g00737/impl.leastOfSizes"], apart := false, laid := [("loop.example/g00737/impl.leastOfSizes", laid_loop_example_g00737_impl_leastOfSizes)] }
def FnExactDecodeCommitSaid : Prop := fnExactDecodeCommitRow.holds Tryd.pinned (OpenSpec.ofChange fnExactDecodeCommitSpec)

/-- ITS FALSE NEIGHBOUR: 'it returns false'. Refute it at one input. -/
def fnExactDecodeCommitWrong : ChangeSpec := { name := "fnExactDecodeCommit", vars := ["loop.example/g00737/impl.leastOfSizes"], fn := fun _ => fun
  | [d, g1] => { results := [.lit (.bool false)], args := [d], vars := [g1] }
  | _ => none }
def FnExactDecodeCommitWrongFalsely : Prop := fnExactDecodeCommitRow.holds Tryd.pinned (OpenSpec.ofChange fnExactDecodeCommitWrong)

/-- 'laws.FnExactDecodeBase': WHATEVER THE INPUT: true; the input reads as it did. -/
def fnExactDecodeBaseSpec : ChangeSpec := { name := "fnExactDecodeBase", vars := ["loop.example/g00737/impl.leastOfSizes"], fn := fun _ => fun
  | [d, g1] => { results := [.lit (.bool true)], args := [d], vars := [g1] }
  | _ => none }
def fnExactDecodeBaseRow : OpenClaim := { program := "ytoaifonjemlfcaadoor", sum := "1152861ecd5c11e2782d8949e4f3a2d42e0ca8daf98e2ee8f67389e43069c689", func := "loop.example/g00737/laws.FnExactDecodeBase", spec := "fnExactDecodeBase", unfollowed := true, recurses := true, named := ["loop.example/g00737/impl.leastOfSizes"], apart := false, laid := [("loop.example/g00737/impl.leastOfSizes", laid_loop_example_g00737_impl_leastOfSizes)] }
def FnExactDecodeBaseSaid : Prop := fnExactDecodeBaseRow.holds Tryd.pinned (OpenSpec.ofChange fnExactDecodeBaseSpec)

/-- ITS FALSE NEIGHBOUR: 'it returns false'. Refute it at one input. -/
def fnExactDecodeBaseWrong : ChangeSpec := { name := "fnExactDecodeBase", vars := ["loop.example/g00737/impl.leastOfSizes"], fn := fun _ => fun
  | [d, g1] => { results := [.lit (.bool false)], args := [d], vars := [g1] }
  | _ => none }
def FnExactDecodeBaseWrongFalsely : Prop := fnExactDecodeBaseRow.holds Tryd.pinned (OpenSpec.ofChange fnExactDecodeBaseWrong)

/- THE SECOND FORM. 'bulk': how many values and letters a reading holds, each counted each time it is reached (what is shared counts as often as it is met; a slice's spare places count too). A statement '..UptoSaid' is the law's where the arguments, and the package variables that the reading takes, are together of bulk at most 1048576: NARROWER than '..Said'. Prove '..Said' where nothing that the law and all that it calls make is longer than what came in: it says more and counts as full. Else prove '..UptoSaid'. A law counts once. -/
mutual
def uptoBulk {H : Type} : DataW H → Nat
  | .lit (.string bytes) => bytes.length + 1
  | .lit _ => 1
  | .nil => 1
  | .ptr d => uptoBulk d + 1
  | .slice elems spare => uptoBulkAll elems + uptoBulkAll spare + 1
  | .agg parts => uptoBulkAll parts + 1
  | .iface _ d => uptoBulk d + 1
  | .map entries => uptoBulkEntries entries + 1
  | .held _ => 1
def uptoBulkAll {H : Type} : List (DataW H) → Nat
  | [] => 0
  | d :: r => uptoBulk d + uptoBulkAll r
def uptoBulkEntries {H : Type} : List (Lit × DataW H) → Nat
  | [] => 0
  | x :: r => uptoBulkEntry x + uptoBulkEntries r
def uptoBulkEntry {H : Type} : Lit × DataW H → Nat
  | (.string bytes, d) => bytes.length + uptoBulk d + 1
  | (_, d) => uptoBulk d + 1
 end
def uptoSmall : (H : Type) → List (DataW H) → Bool := fun _ ds => decide (uptoBulkAll ds ≤ 1048576)
def OpenSpec.upto (s : _root_.Go.ChangeSpec) : _root_.Go.OpenSpec := { _root_.Go.OpenSpec.ofChange s with cond := some uptoSmall }

/-- 'laws.FnExactTakeNumber', WHERE WHAT IT READS IS OF BULK AT MOST 1048576: true; the input reads as it did. -/
def fnExactTakeNumberUptoRow : OpenClaim := { program := "ytoaifonjemlfcaadoor", sum := "1152861ecd5c11e2782d8949e4f3a2d42e0ca8daf98e2ee8f67389e43069c689", func := "loop.example/g00737/laws.FnExactTakeNumber", spec := "fnExactTakeNumber", named := ["loop.example/g00737/impl.leastOfSizes"], apart := false, laid := [("loop.example/g00737/impl.leastOfSizes", laid_loop_example_g00737_impl_leastOfSizes)], narrowed := true }
def FnExactTakeNumberUptoSaid : Prop := fnExactTakeNumberUptoRow.holds Tryd.pinned (OpenSpec.upto fnExactTakeNumberSpec)

/-- 'laws.FnExactDecodeCommit', WHERE WHAT IT READS IS OF BULK AT MOST 1048576: true; the input reads as it did. -/
def fnExactDecodeCommitUptoRow : OpenClaim := { program := "ytoaifonjemlfcaadoor", sum := "1152861ecd5c11e2782d8949e4f3a2d42e0ca8daf98e2ee8f67389e43069c689", func := "loop.example/g00737/laws.FnExactDecodeCommit", spec := "fnExactDecodeCommit", unfollowed := true, recurses := true, named := ["loop.example/g00737/impl.leastOfSizes"], apart := false, laid := [("loop.example/g00737/impl.leastOfSizes", laid_loop_example_g00737_impl_leastOfSizes)], narrowed := true }
def FnExactDecodeCommitUptoSaid : Prop := fnExactDecodeCommitUptoRow.holds Tryd.pinned (OpenSpec.upto fnExactDecodeCommitSpec)

/-- 'laws.FnExactDecodeBase', WHERE WHAT IT READS IS OF BULK AT MOST 1048576: true; the input reads as it did. -/
def fnExactDecodeBaseUptoRow : OpenClaim := { program := "ytoaifonjemlfcaadoor", sum := "1152861ecd5c11e2782d8949e4f3a2d42e0ca8daf98e2ee8f67389e43069c689", func := "loop.example/g00737/laws.FnExactDecodeBase", spec := "fnExactDecodeBase", unfollowed := true, recurses := true, named := ["loop.example/g00737/impl.leastOfSizes"], apart := false, laid := [("loop.example/g00737/impl.leastOfSizes", laid_loop_example_g00737_impl_leastOfSizes)], narrowed := true }
def FnExactDecodeBaseUptoSaid : Prop := fnExactDecodeBaseUptoRow.holds Tryd.pinned (OpenSpec.upto fnExactDecodeBaseSpec)

end Rows
end Go.Proofs.YtoaifonjemlfcaaDoor
