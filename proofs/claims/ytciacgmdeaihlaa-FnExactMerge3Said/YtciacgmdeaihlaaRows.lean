/-
  No cell of these rows narrows 'for every input' (looked for: loops, veiled, ifaces, maps, wideKeys, modest, calm, conditions, laid).
  DERIVED. THE GIVEN ROWS OF THIS SEAT. 7 by the template 'for every input the law returns true; each argument reads behind the call as it read before'; 0 by the template 'total and deterministic' (their statements: YtciacgmdeaihlaaTotals.lean).
  GIVEN WITH THE SEED: the statements are not yours to turn. If you find one false, say at which input.
  Laid BY PROGRAM, IN A SANDBOX (cutbox-rows.mjs): the forced cells as the released guide's own fill.sh prints them over the translation 6b60ac67c2c1f821… (all of the seat's roots in one cut). By AI agents, Wed Nov 11 2026. No macro, syntax, notation, axiom, sorry.
-/
import Derived.Test.YtciacgmdeaihlaaChecked
import GoSem.Claim
import GoSem.ClaimJoined
import GoSem.ClaimMapViews
import Derived.JoinedTies
import Derived.KernelRfl
namespace Go.Proofs.Ytciacgmdeaihlaa
/- THE CELL 'sum', in the pinned program and in every row, IS THE sha256 OF THE DUMP (.gsa) THAT YtciacgmdeaihlaaProg.lean LOADS. Nothing in Lean hashes anything: it is a label: what it is worth is what the hold of that sum in a sandbox is worth. -/
noncomputable def Try.pinned : Pinned := { name := "ytciacgmdeaihlaa", sum := "6b60ac67c2c1f82104ecb0d99ecb68c8a3c267da84e4f2e7ae7040678ee0c4c0", checked := Try.checked }
namespace Rows
def none {H : Type} : Left H := { results := [], args := [] }

/-- 'laws.FnDiff': WHATEVER THE INPUT: true; the input reads as it did. -/
def fnDiffSpec : ChangeSpec := { name := "fnDiff", fn := fun _ => fun
  | [d1, d2] => { results := [.lit (.bool true)], args := [d1, d2] }
  | _ => none }
def fnDiffRow : OpenClaim := { program := "ytciacgmdeaihlaa", sum := "6b60ac67c2c1f82104ecb0d99ecb68c8a3c267da84e4f2e7ae7040678ee0c4c0", func := "loop.example/g00737/laws.FnDiff", spec := "fnDiff", unfollowed := true, recurses := true, apart := false }
def FnDiffSaid : Prop := fnDiffRow.holds Try.pinned (OpenSpec.ofChange fnDiffSpec)

/-- ITS FALSE NEIGHBOUR: 'it returns false'. Refute it at one input. -/
def fnDiffWrong : ChangeSpec := { name := "fnDiff", fn := fun _ => fun
  | [d1, d2] => { results := [.lit (.bool false)], args := [d1, d2] }
  | _ => none }
def FnDiffWrongFalsely : Prop := fnDiffRow.holds Try.pinned (OpenSpec.ofChange fnDiffWrong)

/-- 'laws.FnMerge': WHATEVER THE INPUT: true; the input reads as it did. -/
def fnMergeSpec : ChangeSpec := { name := "fnMerge", fn := fun _ => fun
  | [d1, d2] => { results := [.lit (.bool true)], args := [d1, d2] }
  | _ => none }
def fnMergeRow : OpenClaim := { program := "ytciacgmdeaihlaa", sum := "6b60ac67c2c1f82104ecb0d99ecb68c8a3c267da84e4f2e7ae7040678ee0c4c0", func := "loop.example/g00737/laws.FnMerge", spec := "fnMerge", unfollowed := true, recurses := true, apart := false }
def FnMergeSaid : Prop := fnMergeRow.holds Try.pinned (OpenSpec.ofChange fnMergeSpec)

/-- ITS FALSE NEIGHBOUR: 'it returns false'. Refute it at one input. -/
def fnMergeWrong : ChangeSpec := { name := "fnMerge", fn := fun _ => fun
  | [d1, d2] => { results := [.lit (.bool false)], args := [d1, d2] }
  | _ => none }
def FnMergeWrongFalsely : Prop := fnMergeRow.holds Try.pinned (OpenSpec.ofChange fnMergeWrong)

/-- 'laws.FnSelfMerge': WHATEVER THE INPUT: true; the input reads as it did. -/
def fnSelfMergeSpec : ChangeSpec := { name := "fnSelfMerge", fn := fun _ => fun
  | [d1, d2] => { results := [.lit (.bool true)], args := [d1, d2] }
  | _ => none }
def fnSelfMergeRow : OpenClaim := { program := "ytciacgmdeaihlaa", sum := "6b60ac67c2c1f82104ecb0d99ecb68c8a3c267da84e4f2e7ae7040678ee0c4c0", func := "loop.example/g00737/laws.FnSelfMerge", spec := "fnSelfMerge", unfollowed := true, recurses := true, apart := false }
def FnSelfMergeSaid : Prop := fnSelfMergeRow.holds Try.pinned (OpenSpec.ofChange fnSelfMergeSpec)

/-- ITS FALSE NEIGHBOUR: 'it returns false'. Refute it at one input. -/
def fnSelfMergeWrong : ChangeSpec := { name := "fnSelfMerge", fn := fun _ => fun
  | [d1, d2] => { results := [.lit (.bool false)], args := [d1, d2] }
  | _ => none }
def FnSelfMergeWrongFalsely : Prop := fnSelfMergeRow.holds Try.pinned (OpenSpec.ofChange fnSelfMergeWrong)

/-- 'laws.FnExactChanged': WHATEVER THE INPUT: true; the input reads as it did. -/
def fnExactChangedSpec : ChangeSpec := { name := "fnExactChanged", fn := fun _ => fun
  | [d1, d2] => { results := [.lit (.bool true)], args := [d1, d2] }
  | _ => none }
def fnExactChangedRow : OpenClaim := { program := "ytciacgmdeaihlaa", sum := "6b60ac67c2c1f82104ecb0d99ecb68c8a3c267da84e4f2e7ae7040678ee0c4c0", func := "loop.example/g00737/laws.FnExactChanged", spec := "fnExactChanged", unfollowed := true, recurses := true, apart := false }
def FnExactChangedSaid : Prop := fnExactChangedRow.holds Try.pinned (OpenSpec.ofChange fnExactChangedSpec)

/-- ITS FALSE NEIGHBOUR: 'it returns false'. Refute it at one input. -/
def fnExactChangedWrong : ChangeSpec := { name := "fnExactChanged", fn := fun _ => fun
  | [d1, d2] => { results := [.lit (.bool false)], args := [d1, d2] }
  | _ => none }
def FnExactChangedWrongFalsely : Prop := fnExactChangedRow.holds Try.pinned (OpenSpec.ofChange fnExactChangedWrong)

/-- 'laws.FnExactMerge3': WHATEVER THE INPUT: true; the input reads as it did. -/
def fnExactMerge3Spec : ChangeSpec := { name := "fnExactMerge3", fn := fun _ => fun
  | [d1, d2, d3] => { results := [.lit (.bool true)], args := [d1, d2, d3] }
  | _ => none }
def fnExactMerge3Row : OpenClaim := { program := "ytciacgmdeaihlaa", sum := "6b60ac67c2c1f82104ecb0d99ecb68c8a3c267da84e4f2e7ae7040678ee0c4c0", func := "loop.example/g00737/laws.FnExactMerge3", spec := "fnExactMerge3", unfollowed := true, recurses := true, apart := false }
def FnExactMerge3Said : Prop := fnExactMerge3Row.holds Try.pinned (OpenSpec.ofChange fnExactMerge3Spec)

/-- ITS FALSE NEIGHBOUR: 'it returns false'. Refute it at one input. -/
def fnExactMerge3Wrong : ChangeSpec := { name := "fnExactMerge3", fn := fun _ => fun
  | [d1, d2, d3] => { results := [.lit (.bool false)], args := [d1, d2, d3] }
  | _ => none }
def FnExactMerge3WrongFalsely : Prop := fnExactMerge3Row.holds Try.pinned (OpenSpec.ofChange fnExactMerge3Wrong)

/-- 'laws.FnExactMergeEdits': WHATEVER THE INPUT: true; the input reads as it did. -/
def fnExactMergeEditsSpec : ChangeSpec := { name := "fnExactMergeEdits", fn := fun _ => fun
  | [d1, d2, d3] => { results := [.lit (.bool true)], args := [d1, d2, d3] }
  | _ => none }
def fnExactMergeEditsRow : OpenClaim := { program := "ytciacgmdeaihlaa", sum := "6b60ac67c2c1f82104ecb0d99ecb68c8a3c267da84e4f2e7ae7040678ee0c4c0", func := "loop.example/g00737/laws.FnExactMergeEdits", spec := "fnExactMergeEdits", unfollowed := true, recurses := true, apart := false }
def FnExactMergeEditsSaid : Prop := fnExactMergeEditsRow.holds Try.pinned (OpenSpec.ofChange fnExactMergeEditsSpec)

/-- ITS FALSE NEIGHBOUR: 'it returns false'. Refute it at one input. -/
def fnExactMergeEditsWrong : ChangeSpec := { name := "fnExactMergeEdits", fn := fun _ => fun
  | [d1, d2, d3] => { results := [.lit (.bool false)], args := [d1, d2, d3] }
  | _ => none }
def FnExactMergeEditsWrongFalsely : Prop := fnExactMergeEditsRow.holds Try.pinned (OpenSpec.ofChange fnExactMergeEditsWrong)

/-- 'laws.FnExactRebase': WHATEVER THE INPUT: true; the input reads as it did. -/
def fnExactRebaseSpec : ChangeSpec := { name := "fnExactRebase", fn := fun _ => fun
  | [d1, d2, d3] => { results := [.lit (.bool true)], args := [d1, d2, d3] }
  | _ => none }
def fnExactRebaseRow : OpenClaim := { program := "ytciacgmdeaihlaa", sum := "6b60ac67c2c1f82104ecb0d99ecb68c8a3c267da84e4f2e7ae7040678ee0c4c0", func := "loop.example/g00737/laws.FnExactRebase", spec := "fnExactRebase", unfollowed := true, recurses := true, apart := false }
def FnExactRebaseSaid : Prop := fnExactRebaseRow.holds Try.pinned (OpenSpec.ofChange fnExactRebaseSpec)

/-- ITS FALSE NEIGHBOUR: 'it returns false'. Refute it at one input. -/
def fnExactRebaseWrong : ChangeSpec := { name := "fnExactRebase", fn := fun _ => fun
  | [d1, d2, d3] => { results := [.lit (.bool false)], args := [d1, d2, d3] }
  | _ => none }
def FnExactRebaseWrongFalsely : Prop := fnExactRebaseRow.holds Try.pinned (OpenSpec.ofChange fnExactRebaseWrong)

/- THE SECOND FORM. 'bulk': how many values and letters a reading holds, each counted each time it is reached (what is shared counts as often as it is met; a slice's spare places count too). A statement '..UptoSaid' is the law's where the arguments, and the package variables that the reading takes, are together of bulk at most 1048576: NARROWER than '..Said'. Prove '..Said' where nothing that the law and all that it calls make is longer than what came in: it says more and counts as full. Else prove '..UptoSaid'. A law counts once. -/
mutual
def uptoBulk {H : Type} : DataW H → Nat
  | .lit (.string bytes) => bytes.length + 1
  | .lit _ => 1
  | .nil => 1
  | .ptr d => uptoBulk d + 1
  | .slice elems spare => uptoBulkAll elems + uptoBulkAll spare + 1
  | .agg parts => uptoBulkAll parts + 1
  | .iface _ d => uptoBulk d + 1
  | .map entries => uptoBulkEntries entries + 1
  | .held _ => 1
def uptoBulkAll {H : Type} : List (DataW H) → Nat
  | [] => 0
  | d :: r => uptoBulk d + uptoBulkAll r
def uptoBulkEntries {H : Type} : List (Lit × DataW H) → Nat
  | [] => 0
  | x :: r => uptoBulkEntry x + uptoBulkEntries r
def uptoBulkEntry {H : Type} : Lit × DataW H → Nat
  | (.string bytes, d) => bytes.length + uptoBulk d + 1
  | (_, d) => uptoBulk d + 1
 end
def uptoSmall : (H : Type) → List (DataW H) → Bool := fun _ ds => decide (uptoBulkAll ds ≤ 1048576)
def OpenSpec.upto (s : _root_.Go.ChangeSpec) : _root_.Go.OpenSpec := { _root_.Go.OpenSpec.ofChange s with cond := some uptoSmall }

/-- 'laws.FnDiff', WHERE WHAT IT READS IS OF BULK AT MOST 1048576: true; the input reads as it did. -/
def fnDiffUptoRow : OpenClaim := { program := "ytciacgmdeaihlaa", sum := "6b60ac67c2c1f82104ecb0d99ecb68c8a3c267da84e4f2e7ae7040678ee0c4c0", func := "loop.example/g00737/laws.FnDiff", spec := "fnDiff", unfollowed := true, recurses := true, apart := false, narrowed := true }
def FnDiffUptoSaid : Prop := fnDiffUptoRow.holds Try.pinned (OpenSpec.upto fnDiffSpec)

/-- 'laws.FnMerge', WHERE WHAT IT READS IS OF BULK AT MOST 1048576: true; the input reads as it did. -/
def fnMergeUptoRow : OpenClaim := { program := "ytciacgmdeaihlaa", sum := "6b60ac67c2c1f82104ecb0d99ecb68c8a3c267da84e4f2e7ae7040678ee0c4c0", func := "loop.example/g00737/laws.FnMerge", spec := "fnMerge", unfollowed := true, recurses := true, apart := false, narrowed := true }
def FnMergeUptoSaid : Prop := fnMergeUptoRow.holds Try.pinned (OpenSpec.upto fnMergeSpec)

/-- 'laws.FnSelfMerge', WHERE WHAT IT READS IS OF BULK AT MOST 1048576: true; the input reads as it did. -/
def fnSelfMergeUptoRow : OpenClaim := { program := "ytciacgmdeaihlaa", sum := "6b60ac67c2c1f82104ecb0d99ecb68c8a3c267da84e4f2e7ae7040678ee0c4c0", func := "loop.example/g00737/laws.FnSelfMerge", spec := "fnSelfMerge", unfollowed := true, recurses := true, apart := false, narrowed := true }
def FnSelfMergeUptoSaid : Prop := fnSelfMergeUptoRow.holds Try.pinned (OpenSpec.upto fnSelfMergeSpec)

/-- 'laws.FnExactChanged', WHERE WHAT IT READS IS OF BULK AT MOST 1048576: true; the input reads as it did. -/
def fnExactChangedUptoRow : OpenClaim := { program := "ytciacgmdeaihlaa", sum := "6b60ac67c2c1f82104ecb0d99ecb68c8a3c267da84e4f2e7ae7040678ee0c4c0", func := "loop.example/g00737/laws.FnExactChanged", spec := "fnExactChanged", unfollowed := true, recurses := true, apart := false, narrowed := true }
def FnExactChangedUptoSaid : Prop := fnExactChangedUptoRow.holds Try.pinned (OpenSpec.upto fnExactChangedSpec)

/-- 'laws.FnExactMerge3', WHERE WHAT IT READS IS OF BULK AT MOST 1048576: true; the input reads as it did. -/
def fnExactMerge3UptoRow : OpenClaim := { program := "ytciacgmdeaihlaa", sum := "6b60ac67c2c1f82104ecb0d99ecb68c8a3c267da84e4f2e7ae7040678ee0c4c0", func := "loop.example/g00737/laws.FnExactMerge3", spec := "fnExactMerge3", unfollowed := true, recurses := true, apart := false, narrowed := true }
def FnExactMerge3UptoSaid : Prop := fnExactMerge3UptoRow.holds Try.pinned (OpenSpec.upto fnExactMerge3Spec)

/-- 'laws.FnExactMergeEdits', WHERE WHAT IT READS IS OF BULK AT MOST 1048576: true; the input reads as it did. -/
def fnExactMergeEditsUptoRow : OpenClaim := { program := "ytciacgmdeaihlaa", sum := "6b60ac67c2c1f82104ecb0d99ecb68c8a3c267da84e4f2e7ae7040678ee0c4c0", func := "loop.example/g00737/laws.FnExactMergeEdits", spec := "fnExactMergeEdits", unfollowed := true, recurses := true, apart := false, narrowed := true }
def FnExactMergeEditsUptoSaid : Prop := fnExactMergeEditsUptoRow.holds Try.pinned (OpenSpec.upto fnExactMergeEditsSpec)

/-- 'laws.FnExactRebase', WHERE WHAT IT READS IS OF BULK AT MOST 1048576: true; the input reads as it did. -/
def fnExactRebaseUptoRow : OpenClaim := { program := "ytciacgmdeaihlaa", sum := "6b60ac67c2c1f82104ecb0d99ecb68c8a3c267da84e4f2e7ae7040678ee0c4c0", func := "loop.example/g00737/laws.FnExactRebase", spec := "fnExactRebase", unfollowed := true, recurses := true, apart := false, narrowed := true }
def FnExactRebaseUptoSaid : Prop := fnExactRebaseUptoRow.holds Try.pinned (OpenSpec.upto fnExactRebaseSpec)

end Rows
end Go.Proofs.Ytciacgmdeaihlaa
