/-
  No cell of these rows narrows 'for every input' (looked for: loops, veiled, ifaces, maps, wideKeys, modest, calm, conditions, laid).
  DERIVED. THE GIVEN ROWS OF THIS SEAT. 13 by the template 'for every input the law returns true; each argument reads behind the call as it read before'; 0 by the template 'total and deterministic' (their statements: YtnkceemdnefomaaTotals.lean).
  GIVEN WITH THE SEED: the statements are not yours to turn. If you find one false, say at which input.
  Laid BY PROGRAM, IN A SANDBOX (cutbox-rows.mjs): the forced cells as the released guide's own fill.sh prints them over the translation dacfc01e3c57c841… (all of the seat's roots in one cut). By AI agents, Wed Nov 11 2026. No macro, syntax, notation, axiom, sorry.
-/
import Derived.Test.YtnkceemdnefomaaChecked
import GoSem.Claim
import GoSem.ClaimJoined
import GoSem.ClaimMapViews
import Derived.JoinedTies
import Derived.KernelRfl
namespace Go.Proofs.Ytnkceemdnefomaa
/- THE CELL 'sum', in the pinned program and in every row, IS THE sha256 OF THE DUMP (.gsa) THAT YtnkceemdnefomaaProg.lean LOADS. Nothing in Lean hashes anything: it is a label: what it is worth is what the hold of that sum in a sandbox is worth. -/
noncomputable def Try.pinned : Pinned := { name := "ytnkceemdnefomaa", sum := "dacfc01e3c57c8417240e0668e165ea5ba4170905c9ba20b56638edc17cb30bd", checked := Try.checked }
namespace Rows
def none {H : Type} : Left H := { results := [], args := [] }

/-- 'laws.FnExactRefsOK': WHATEVER THE INPUT: true; the input reads as it did. -/
def fnExactRefsOKSpec : ChangeSpec := { name := "fnExactRefsOK", fn := fun _ => fun
  | [d] => { results := [.lit (.bool true)], args := [d] }
  | _ => none }
def fnExactRefsOKRow : OpenClaim := { program := "ytnkceemdnefomaa", sum := "dacfc01e3c57c8417240e0668e165ea5ba4170905c9ba20b56638edc17cb30bd", func := "loop.example/g00737/laws.FnExactRefsOK", spec := "fnExactRefsOK", unfollowed := true, recurses := true, apart := false }
def FnExactRefsOKSaid : Prop := fnExactRefsOKRow.holds Try.pinned (OpenSpec.ofChange fnExactRefsOKSpec)

/-- ITS FALSE NEIGHBOUR: 'it returns false'. Refute it at one input. -/
def fnExactRefsOKWrong : ChangeSpec := { name := "fnExactRefsOK", fn := fun _ => fun
  | [d] => { results := [.lit (.bool false)], args := [d] }
  | _ => none }
def FnExactRefsOKWrongFalsely : Prop := fnExactRefsOKRow.holds Try.pinned (OpenSpec.ofChange fnExactRefsOKWrong)

/-- 'laws.FnExactLoadRef': WHATEVER THE INPUT: true; the input reads as it did. -/
def fnExactLoadRefSpec : ChangeSpec := { name := "fnExactLoadRef", fn := fun _ => fun
  | [d1, d2] => { results := [.lit (.bool true)], args := [d1, d2] }
  | _ => none }
def fnExactLoadRefRow : OpenClaim := { program := "ytnkceemdnefomaa", sum := "dacfc01e3c57c8417240e0668e165ea5ba4170905c9ba20b56638edc17cb30bd", func := "loop.example/g00737/laws.FnExactLoadRef", spec := "fnExactLoadRef", unfollowed := true, recurses := true, apart := false }
def FnExactLoadRefSaid : Prop := fnExactLoadRefRow.holds Try.pinned (OpenSpec.ofChange fnExactLoadRefSpec)

/-- ITS FALSE NEIGHBOUR: 'it returns false'. Refute it at one input. -/
def fnExactLoadRefWrong : ChangeSpec := { name := "fnExactLoadRef", fn := fun _ => fun
  | [d1, d2] => { results := [.lit (.bool false)], args := [d1, d2] }
  | _ => none }
def FnExactLoadRefWrongFalsely : Prop := fnExactLoadRefRow.holds Try.pinned (OpenSpec.ofChange fnExactLoadRefWrong)

/-- 'laws.FnExactCreateRef': WHATEVER THE INPUT: true; the input reads as it did. -/
def fnExactCreateRefSpec : ChangeSpec := { name := "fnExactCreateRef", fn := fun _ => fun
  | [d1, d2, d3] => { results := [.lit (.bool true)], args := [d1, d2, d3] }
  | _ => none }
def fnExactCreateRefRow : OpenClaim := { program := "ytnkceemdnefomaa", sum := "dacfc01e3c57c8417240e0668e165ea5ba4170905c9ba20b56638edc17cb30bd", func := "loop.example/g00737/laws.FnExactCreateRef", spec := "fnExactCreateRef", inPlace := ["sync/atomic.StorePointer", "sync/atomic.LoadPointer", "sync/atomic.CompareAndSwapPointer"], unfollowed := true, recurses := true, apart := false }
def FnExactCreateRefSaid : Prop := fnExactCreateRefRow.holds Try.pinned (OpenSpec.ofChange fnExactCreateRefSpec)

/-- ITS FALSE NEIGHBOUR: 'it returns false'. Refute it at one input. -/
def fnExactCreateRefWrong : ChangeSpec := { name := "fnExactCreateRef", fn := fun _ => fun
  | [d1, d2, d3] => { results := [.lit (.bool false)], args := [d1, d2, d3] }
  | _ => none }
def FnExactCreateRefWrongFalsely : Prop := fnExactCreateRefRow.holds Try.pinned (OpenSpec.ofChange fnExactCreateRefWrong)

/-- 'laws.FnExactDeleteRef': WHATEVER THE INPUT: true; the input reads as it did. -/
def fnExactDeleteRefSpec : ChangeSpec := { name := "fnExactDeleteRef", fn := fun _ => fun
  | [d1, d2] => { results := [.lit (.bool true)], args := [d1, d2] }
  | _ => none }
def fnExactDeleteRefRow : OpenClaim := { program := "ytnkceemdnefomaa", sum := "dacfc01e3c57c8417240e0668e165ea5ba4170905c9ba20b56638edc17cb30bd", func := "loop.example/g00737/laws.FnExactDeleteRef", spec := "fnExactDeleteRef", inPlace := ["sync/atomic.StorePointer", "sync/atomic.LoadPointer", "sync/atomic.CompareAndSwapPointer"], unfollowed := true, recurses := true, apart := false }
def FnExactDeleteRefSaid : Prop := fnExactDeleteRefRow.holds Try.pinned (OpenSpec.ofChange fnExactDeleteRefSpec)

/-- ITS FALSE NEIGHBOUR: 'it returns false'. Refute it at one input. -/
def fnExactDeleteRefWrong : ChangeSpec := { name := "fnExactDeleteRef", fn := fun _ => fun
  | [d1, d2] => { results := [.lit (.bool false)], args := [d1, d2] }
  | _ => none }
def FnExactDeleteRefWrongFalsely : Prop := fnExactDeleteRefRow.holds Try.pinned (OpenSpec.ofChange fnExactDeleteRefWrong)

/-- 'laws.FnExactSwapRef': WHATEVER THE INPUT: true; the input reads as it did. -/
def fnExactSwapRefSpec : ChangeSpec := { name := "fnExactSwapRef", fn := fun _ => fun
  | [d1, d2, d3, d4] => { results := [.lit (.bool true)], args := [d1, d2, d3, d4] }
  | _ => none }
def fnExactSwapRefRow : OpenClaim := { program := "ytnkceemdnefomaa", sum := "dacfc01e3c57c8417240e0668e165ea5ba4170905c9ba20b56638edc17cb30bd", func := "loop.example/g00737/laws.FnExactSwapRef", spec := "fnExactSwapRef", inPlace := ["sync/atomic.StorePointer", "sync/atomic.LoadPointer", "sync/atomic.CompareAndSwapPointer"], unfollowed := true, recurses := true, apart := false }
def FnExactSwapRefSaid : Prop := fnExactSwapRefRow.holds Try.pinned (OpenSpec.ofChange fnExactSwapRefSpec)

/-- ITS FALSE NEIGHBOUR: 'it returns false'. Refute it at one input. -/
def fnExactSwapRefWrong : ChangeSpec := { name := "fnExactSwapRef", fn := fun _ => fun
  | [d1, d2, d3, d4] => { results := [.lit (.bool false)], args := [d1, d2, d3, d4] }
  | _ => none }
def FnExactSwapRefWrongFalsely : Prop := fnExactSwapRefRow.holds Try.pinned (OpenSpec.ofChange fnExactSwapRefWrong)

/-- 'laws.FnExactLiveRefs': WHATEVER THE INPUT: true; the input reads as it did. -/
def fnExactLiveRefsSpec : ChangeSpec := { name := "fnExactLiveRefs", fn := fun _ => fun
  | [d] => { results := [.lit (.bool true)], args := [d] }
  | _ => none }
def fnExactLiveRefsRow : OpenClaim := { program := "ytnkceemdnefomaa", sum := "dacfc01e3c57c8417240e0668e165ea5ba4170905c9ba20b56638edc17cb30bd", func := "loop.example/g00737/laws.FnExactLiveRefs", spec := "fnExactLiveRefs", unfollowed := true, recurses := true, apart := false }
def FnExactLiveRefsSaid : Prop := fnExactLiveRefsRow.holds Try.pinned (OpenSpec.ofChange fnExactLiveRefsSpec)

/-- ITS FALSE NEIGHBOUR: 'it returns false'. Refute it at one input. -/
def fnExactLiveRefsWrong : ChangeSpec := { name := "fnExactLiveRefs", fn := fun _ => fun
  | [d] => { results := [.lit (.bool false)], args := [d] }
  | _ => none }
def FnExactLiveRefsWrongFalsely : Prop := fnExactLiveRefsRow.holds Try.pinned (OpenSpec.ofChange fnExactLiveRefsWrong)

/-- 'laws.FnRefs': WHATEVER THE INPUT: true; the input reads as it did. -/
def fnRefsSpec : ChangeSpec := { name := "fnRefs", fn := fun _ => fun
  | [d1, d2] => { results := [.lit (.bool true)], args := [d1, d2] }
  | _ => none }
def fnRefsRow : OpenClaim := { program := "ytnkceemdnefomaa", sum := "dacfc01e3c57c8417240e0668e165ea5ba4170905c9ba20b56638edc17cb30bd", func := "loop.example/g00737/laws.FnRefs", spec := "fnRefs", inPlace := ["sync/atomic.StorePointer", "sync/atomic.LoadPointer", "sync/atomic.CompareAndSwapPointer"], unfollowed := true, recurses := true, apart := false }
def FnRefsSaid : Prop := fnRefsRow.holds Try.pinned (OpenSpec.ofChange fnRefsSpec)

/-- ITS FALSE NEIGHBOUR: 'it returns false'. Refute it at one input. -/
def fnRefsWrong : ChangeSpec := { name := "fnRefs", fn := fun _ => fun
  | [d1, d2] => { results := [.lit (.bool false)], args := [d1, d2] }
  | _ => none }
def FnRefsWrongFalsely : Prop := fnRefsRow.holds Try.pinned (OpenSpec.ofChange fnRefsWrong)

/-- 'laws.FnExactIsAncestor': WHATEVER THE INPUT: true; the input reads as it did. -/
def fnExactIsAncestorSpec : ChangeSpec := { name := "fnExactIsAncestor", fn := fun _ => fun
  | [d1, d2, d3] => { results := [.lit (.bool true)], args := [d1, d2, d3] }
  | _ => none }
def fnExactIsAncestorRow : OpenClaim := { program := "ytnkceemdnefomaa", sum := "dacfc01e3c57c8417240e0668e165ea5ba4170905c9ba20b56638edc17cb30bd", func := "loop.example/g00737/laws.FnExactIsAncestor", spec := "fnExactIsAncestor", unfollowed := true, recurses := true, apart := false }
def FnExactIsAncestorSaid : Prop := fnExactIsAncestorRow.holds Try.pinned (OpenSpec.ofChange fnExactIsAncestorSpec)

/-- ITS FALSE NEIGHBOUR: 'it returns false'. Refute it at one input. -/
def fnExactIsAncestorWrong : ChangeSpec := { name := "fnExactIsAncestor", fn := fun _ => fun
  | [d1, d2, d3] => { results := [.lit (.bool false)], args := [d1, d2, d3] }
  | _ => none }
def FnExactIsAncestorWrongFalsely : Prop := fnExactIsAncestorRow.holds Try.pinned (OpenSpec.ofChange fnExactIsAncestorWrong)

/-- 'laws.FnExactBaseOf': WHATEVER THE INPUT: true; the input reads as it did. -/
def fnExactBaseOfSpec : ChangeSpec := { name := "fnExactBaseOf", fn := fun _ => fun
  | [d1, d2, d3] => { results := [.lit (.bool true)], args := [d1, d2, d3] }
  | _ => none }
def fnExactBaseOfRow : OpenClaim := { program := "ytnkceemdnefomaa", sum := "dacfc01e3c57c8417240e0668e165ea5ba4170905c9ba20b56638edc17cb30bd", func := "loop.example/g00737/laws.FnExactBaseOf", spec := "fnExactBaseOf", unfollowed := true, recurses := true, apart := false }
def FnExactBaseOfSaid : Prop := fnExactBaseOfRow.holds Try.pinned (OpenSpec.ofChange fnExactBaseOfSpec)

/-- ITS FALSE NEIGHBOUR: 'it returns false'. Refute it at one input. -/
def fnExactBaseOfWrong : ChangeSpec := { name := "fnExactBaseOf", fn := fun _ => fun
  | [d1, d2, d3] => { results := [.lit (.bool false)], args := [d1, d2, d3] }
  | _ => none }
def FnExactBaseOfWrongFalsely : Prop := fnExactBaseOfRow.holds Try.pinned (OpenSpec.ofChange fnExactBaseOfWrong)

/-- 'laws.FnExactAddCommit': WHATEVER THE INPUT: true; the input reads as it did. -/
def fnExactAddCommitSpec : ChangeSpec := { name := "fnExactAddCommit", fn := fun _ => fun
  | [d1, d2] => { results := [.lit (.bool true)], args := [d1, d2] }
  | _ => none }
def fnExactAddCommitRow : OpenClaim := { program := "ytnkceemdnefomaa", sum := "dacfc01e3c57c8417240e0668e165ea5ba4170905c9ba20b56638edc17cb30bd", func := "loop.example/g00737/laws.FnExactAddCommit", spec := "fnExactAddCommit", unfollowed := true, recurses := true, apart := false }
def FnExactAddCommitSaid : Prop := fnExactAddCommitRow.holds Try.pinned (OpenSpec.ofChange fnExactAddCommitSpec)

/-- ITS FALSE NEIGHBOUR: 'it returns false'. Refute it at one input. -/
def fnExactAddCommitWrong : ChangeSpec := { name := "fnExactAddCommit", fn := fun _ => fun
  | [d1, d2] => { results := [.lit (.bool false)], args := [d1, d2] }
  | _ => none }
def FnExactAddCommitWrongFalsely : Prop := fnExactAddCommitRow.holds Try.pinned (OpenSpec.ofChange fnExactAddCommitWrong)

/-- 'laws.FnExactAncestorsOf': WHATEVER THE INPUT: true; the input reads as it did. -/
def fnExactAncestorsOfSpec : ChangeSpec := { name := "fnExactAncestorsOf", fn := fun _ => fun
  | [d1, d2] => { results := [.lit (.bool true)], args := [d1, d2] }
  | _ => none }
def fnExactAncestorsOfRow : OpenClaim := { program := "ytnkceemdnefomaa", sum := "dacfc01e3c57c8417240e0668e165ea5ba4170905c9ba20b56638edc17cb30bd", func := "loop.example/g00737/laws.FnExactAncestorsOf", spec := "fnExactAncestorsOf", unfollowed := true, recurses := true, apart := false }
def FnExactAncestorsOfSaid : Prop := fnExactAncestorsOfRow.holds Try.pinned (OpenSpec.ofChange fnExactAncestorsOfSpec)

/-- ITS FALSE NEIGHBOUR: 'it returns false'. Refute it at one input. -/
def fnExactAncestorsOfWrong : ChangeSpec := { name := "fnExactAncestorsOf", fn := fun _ => fun
  | [d1, d2] => { results := [.lit (.bool false)], args := [d1, d2] }
  | _ => none }
def FnExactAncestorsOfWrongFalsely : Prop := fnExactAncestorsOfRow.holds Try.pinned (OpenSpec.ofChange fnExactAncestorsOfWrong)

/-- 'laws.FnExactMergeCommits': WHATEVER THE INPUT: true; the input reads as it did. -/
def fnExactMergeCommitsSpec : ChangeSpec := { name := "fnExactMergeCommits", fn := fun _ => fun
  | [d1, d2, d3] => { results := [.lit (.bool true)], args := [d1, d2, d3] }
  | _ => none }
def fnExactMergeCommitsRow : OpenClaim := { program := "ytnkceemdnefomaa", sum := "dacfc01e3c57c8417240e0668e165ea5ba4170905c9ba20b56638edc17cb30bd", func := "loop.example/g00737/laws.FnExactMergeCommits", spec := "fnExactMergeCommits", unfollowed := true, recurses := true, apart := false }
def FnExactMergeCommitsSaid : Prop := fnExactMergeCommitsRow.holds Try.pinned (OpenSpec.ofChange fnExactMergeCommitsSpec)

/-- ITS FALSE NEIGHBOUR: 'it returns false'. Refute it at one input. -/
def fnExactMergeCommitsWrong : ChangeSpec := { name := "fnExactMergeCommits", fn := fun _ => fun
  | [d1, d2, d3] => { results := [.lit (.bool false)], args := [d1, d2, d3] }
  | _ => none }
def FnExactMergeCommitsWrongFalsely : Prop := fnExactMergeCommitsRow.holds Try.pinned (OpenSpec.ofChange fnExactMergeCommitsWrong)

/-- 'laws.FnExactFirstLine': WHATEVER THE INPUT: true; the input reads as it did. -/
def fnExactFirstLineSpec : ChangeSpec := { name := "fnExactFirstLine", fn := fun _ => fun
  | [d1, d2] => { results := [.lit (.bool true)], args := [d1, d2] }
  | _ => none }
def fnExactFirstLineRow : OpenClaim := { program := "ytnkceemdnefomaa", sum := "dacfc01e3c57c8417240e0668e165ea5ba4170905c9ba20b56638edc17cb30bd", func := "loop.example/g00737/laws.FnExactFirstLine", spec := "fnExactFirstLine", unfollowed := true, recurses := true, apart := false }
def FnExactFirstLineSaid : Prop := fnExactFirstLineRow.holds Try.pinned (OpenSpec.ofChange fnExactFirstLineSpec)

/-- ITS FALSE NEIGHBOUR: 'it returns false'. Refute it at one input. -/
def fnExactFirstLineWrong : ChangeSpec := { name := "fnExactFirstLine", fn := fun _ => fun
  | [d1, d2] => { results := [.lit (.bool false)], args := [d1, d2] }
  | _ => none }
def FnExactFirstLineWrongFalsely : Prop := fnExactFirstLineRow.holds Try.pinned (OpenSpec.ofChange fnExactFirstLineWrong)

/- THE SECOND FORM. 'bulk': how many values and letters a reading holds, each counted each time it is reached (what is shared counts as often as it is met; a slice's spare places count too). A statement '..UptoSaid' is the law's where the arguments, and the package variables that the reading takes, are together of bulk at most 1048576: NARROWER than '..Said'. Prove '..Said' where nothing that the law and all that it calls make is longer than what came in: it says more and counts as full. Else prove '..UptoSaid'. A law counts once. -/
mutual
def uptoBulk {H : Type} : DataW H → Nat
  | .lit (.string bytes) => bytes.length + 1
  | .lit _ => 1
  | .nil => 1
  | .ptr d => uptoBulk d + 1
  | .slice elems spare => uptoBulkAll elems + uptoBulkAll spare + 1
  | .agg parts => uptoBulkAll parts + 1
  | .iface _ d => uptoBulk d + 1
  | .map entries => uptoBulkEntries entries + 1
  | .held _ => 1
def uptoBulkAll {H : Type} : List (DataW H) → Nat
  | [] => 0
  | d :: r => uptoBulk d + uptoBulkAll r
def uptoBulkEntries {H : Type} : List (Lit × DataW H) → Nat
  | [] => 0
  | x :: r => uptoBulkEntry x + uptoBulkEntries r
def uptoBulkEntry {H : Type} : Lit × DataW H → Nat
  | (.string bytes, d) => bytes.length + uptoBulk d + 1
  | (_, d) => uptoBulk d + 1
 end
def uptoSmall : (H : Type) → List (DataW H) → Bool := fun _ ds => decide (uptoBulkAll ds ≤ 1048576)
def OpenSpec.upto (s : _root_.Go.ChangeSpec) : _root_.Go.OpenSpec := { _root_.Go.OpenSpec.ofChange s with cond := some uptoSmall }

/-- 'laws.FnExactRefsOK', WHERE WHAT IT READS IS OF BULK AT MOST 1048576: true; the input reads as it did. -/
def fnExactRefsOKUptoRow : OpenClaim := { program := "ytnkceemdnefomaa", sum := "dacfc01e3c57c8417240e0668e165ea5ba4170905c9ba20b56638edc17cb30bd", func := "loop.example/g00737/laws.FnExactRefsOK", spec := "fnExactRefsOK", unfollowed := true, recurses := true, apart := false, narrowed := true }
def FnExactRefsOKUptoSaid : Prop := fnExactRefsOKUptoRow.holds Try.pinned (OpenSpec.upto fnExactRefsOKSpec)

/-- 'laws.FnExactLoadRef', WHERE WHAT IT READS IS OF BULK AT MOST 1048576: true; the input reads as it did. -/
def fnExactLoadRefUptoRow : OpenClaim := { program := "ytnkceemdnefomaa", sum := "dacfc01e3c57c8417240e0668e165ea5ba4170905c9ba20b56638edc17cb30bd", func := "loop.example/g00737/laws.FnExactLoadRef", spec := "fnExactLoadRef", unfollowed := true, recurses := true, apart := false, narrowed := true }
def FnExactLoadRefUptoSaid : Prop := fnExactLoadRefUptoRow.holds Try.pinned (OpenSpec.upto fnExactLoadRefSpec)

/-- 'laws.FnExactCreateRef', WHERE WHAT IT READS IS OF BULK AT MOST 1048576: true; the input reads as it did. -/
def fnExactCreateRefUptoRow : OpenClaim := { program := "ytnkceemdnefomaa", sum := "dacfc01e3c57c8417240e0668e165ea5ba4170905c9ba20b56638edc17cb30bd", func := "loop.example/g00737/laws.FnExactCreateRef", spec := "fnExactCreateRef", inPlace := ["sync/atomic.StorePointer", "sync/atomic.LoadPointer", "sync/atomic.CompareAndSwapPointer"], unfollowed := true, recurses := true, apart := false, narrowed := true }
def FnExactCreateRefUptoSaid : Prop := fnExactCreateRefUptoRow.holds Try.pinned (OpenSpec.upto fnExactCreateRefSpec)

/-- 'laws.FnExactDeleteRef', WHERE WHAT IT READS IS OF BULK AT MOST 1048576: true; the input reads as it did. -/
def fnExactDeleteRefUptoRow : OpenClaim := { program := "ytnkceemdnefomaa", sum := "dacfc01e3c57c8417240e0668e165ea5ba4170905c9ba20b56638edc17cb30bd", func := "loop.example/g00737/laws.FnExactDeleteRef", spec := "fnExactDeleteRef", inPlace := ["sync/atomic.StorePointer", "sync/atomic.LoadPointer", "sync/atomic.CompareAndSwapPointer"], unfollowed := true, recurses := true, apart := false, narrowed := true }
def FnExactDeleteRefUptoSaid : Prop := fnExactDeleteRefUptoRow.holds Try.pinned (OpenSpec.upto fnExactDeleteRefSpec)

/-- 'laws.FnExactSwapRef', WHERE WHAT IT READS IS OF BULK AT MOST 1048576: true; the input reads as it did. -/
def fnExactSwapRefUptoRow : OpenClaim := { program := "ytnkceemdnefomaa", sum := "dacfc01e3c57c8417240e0668e165ea5ba4170905c9ba20b56638edc17cb30bd", func := "loop.example/g00737/laws.FnExactSwapRef", spec := "fnExactSwapRef", inPlace := ["sync/atomic.StorePointer", "sync/atomic.LoadPointer", "sync/atomic.CompareAndSwapPointer"], unfollowed := true, recurses := true, apart := false, narrowed := true }
def FnExactSwapRefUptoSaid : Prop := fnExactSwapRefUptoRow.holds Try.pinned (OpenSpec.upto fnExactSwapRefSpec)

/-- 'laws.FnExactLiveRefs', WHERE WHAT IT READS IS OF BULK AT MOST 1048576: true; the input reads as it did. -/
def fnExactLiveRefsUptoRow : OpenClaim := { program := "ytnkceemdnefomaa", sum := "dacfc01e3c57c8417240e0668e165ea5ba4170905c9ba20b56638edc17cb30bd", func := "loop.example/g00737/laws.FnExactLiveRefs", spec := "fnExactLiveRefs", unfollowed := true, recurses := true, apart := false, narrowed := true }
def FnExactLiveRefsUptoSaid : Prop := fnExactLiveRefsUptoRow.holds Try.pinned (OpenSpec.upto fnExactLiveRefsSpec)

/-- 'laws.FnRefs', WHERE WHAT IT READS IS OF BULK AT MOST 1048576: true; the input reads as it did. -/
def fnRefsUptoRow : OpenClaim := { program := "ytnkceemdnefomaa", sum := "dacfc01e3c57c8417240e0668e165ea5ba4170905c9ba20b56638edc17cb30bd", func := "loop.example/g00737/laws.FnRefs", spec := "fnRefs", inPlace := ["sync/atomic.StorePointer", "sync/atomic.LoadPointer", "sync/atomic.CompareAndSwapPointer"], unfollowed := true, recurses := true, apart := false, narrowed := true }
def FnRefsUptoSaid : Prop := fnRefsUptoRow.holds Try.pinned (OpenSpec.upto fnRefsSpec)

/-- 'laws.FnExactIsAncestor', WHERE WHAT IT READS IS OF BULK AT MOST 1048576: true; the input reads as it did. -/
def fnExactIsAncestorUptoRow : OpenClaim := { program := "ytnkceemdnefomaa", sum := "dacfc01e3c57c8417240e0668e165ea5ba4170905c9ba20b56638edc17cb30bd", func := "loop.example/g00737/laws.FnExactIsAncestor", spec := "fnExactIsAncestor", unfollowed := true, recurses := true, apart := false, narrowed := true }
def FnExactIsAncestorUptoSaid : Prop := fnExactIsAncestorUptoRow.holds Try.pinned (OpenSpec.upto fnExactIsAncestorSpec)

/-- 'laws.FnExactBaseOf', WHERE WHAT IT READS IS OF BULK AT MOST 1048576: true; the input reads as it did. -/
def fnExactBaseOfUptoRow : OpenClaim := { program := "ytnkceemdnefomaa", sum := "dacfc01e3c57c8417240e0668e165ea5ba4170905c9ba20b56638edc17cb30bd", func := "loop.example/g00737/laws.FnExactBaseOf", spec := "fnExactBaseOf", unfollowed := true, recurses := true, apart := false, narrowed := true }
def FnExactBaseOfUptoSaid : Prop := fnExactBaseOfUptoRow.holds Try.pinned (OpenSpec.upto fnExactBaseOfSpec)

/-- 'laws.FnExactAddCommit', WHERE WHAT IT READS IS OF BULK AT MOST 1048576: true; the input reads as it did. -/
def fnExactAddCommitUptoRow : OpenClaim := { program := "ytnkceemdnefomaa", sum := "dacfc01e3c57c8417240e0668e165ea5ba4170905c9ba20b56638edc17cb30bd", func := "loop.example/g00737/laws.FnExactAddCommit", spec := "fnExactAddCommit", unfollowed := true, recurses := true, apart := false, narrowed := true }
def FnExactAddCommitUptoSaid : Prop := fnExactAddCommitUptoRow.holds Try.pinned (OpenSpec.upto fnExactAddCommitSpec)

/-- 'laws.FnExactAncestorsOf', WHERE WHAT IT READS IS OF BULK AT MOST 1048576: true; the input reads as it did. -/
def fnExactAncestorsOfUptoRow : OpenClaim := { program := "ytnkceemdnefomaa", sum := "dacfc01e3c57c8417240e0668e165ea5ba4170905c9ba20b56638edc17cb30bd", func := "loop.example/g00737/laws.FnExactAncestorsOf", spec := "fnExactAncestorsOf", unfollowed := true, recurses := true, apart := false, narrowed := true }
def FnExactAncestorsOfUptoSaid : Prop := fnExactAncestorsOfUptoRow.holds Try.pinned (OpenSpec.upto fnExactAncestorsOfSpec)

/-- 'laws.FnExactMergeCommits', WHERE WHAT IT READS IS OF BULK AT MOST 1048576: true; the input reads as it did. -/
def fnExactMergeCommitsUptoRow : OpenClaim := { program := "ytnkceemdnefomaa", sum := "dacfc01e3c57c8417240e0668e165ea5ba4170905c9ba20b56638edc17cb30bd", func := "loop.example/g00737/laws.FnExactMergeCommits", spec := "fnExactMergeCommits", unfollowed := true, recurses := true, apart := false, narrowed := true }
def FnExactMergeCommitsUptoSaid : Prop := fnExactMergeCommitsUptoRow.holds Try.pinned (OpenSpec.upto fnExactMergeCommitsSpec)

/-- 'laws.FnExactFirstLine', WHERE WHAT IT READS IS OF BULK AT MOST 1048576: true; the input reads as it did. -/
def fnExactFirstLineUptoRow : OpenClaim := { program := "ytnkceemdnefomaa", sum := "dacfc01e3c57c8417240e0668e165ea5ba4170905c9ba20b56638edc17cb30bd", func := "loop.example/g00737/laws.FnExactFirstLine", spec := "fnExactFirstLine", unfollowed := true, recurses := true, apart := false, narrowed := true }
def FnExactFirstLineUptoSaid : Prop := fnExactFirstLineUptoRow.holds Try.pinned (OpenSpec.upto fnExactFirstLineSpec)

end Rows
end Go.Proofs.Ytnkceemdnefomaa
