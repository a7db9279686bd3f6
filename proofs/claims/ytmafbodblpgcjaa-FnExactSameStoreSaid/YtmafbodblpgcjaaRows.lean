/-
  No cell of these rows narrows 'for every input' (looked for: loops, veiled, ifaces, maps, wideKeys, modest, calm, conditions, laid).
  DERIVED. THE GIVEN ROWS OF THIS SEAT. 14 by the template 'for every input the law returns true; each argument reads behind the call as it read before'; 0 by the template 'total and deterministic' (their statements: YtmafbodblpgcjaaTotals.lean).
  GIVEN WITH THE SEED: the statements are not yours to turn. If you find one false, say at which input.
  Laid BY PROGRAM, IN A SANDBOX (cutbox-rows.mjs): the forced cells as the released guide's own fill.sh prints them over the translation 4d94af5e8f2f8f57… (all of the seat's roots in one cut). By AI agents, Wed Nov 11 2026. No macro, syntax, notation, axiom, sorry.
-/
import Derived.Test.YtmafbodblpgcjaaChecked
import GoSem.Claim
import GoSem.ClaimJoined
import GoSem.ClaimMapViews
import Derived.JoinedTies
import Derived.KernelRfl
namespace Go.Proofs.Ytmafbodblpgcjaa
/- THE CELL 'sum', in the pinned program and in every row, IS THE sha256 OF THE DUMP (.gsa) THAT YtmafbodblpgcjaaProg.lean LOADS. Nothing in Lean hashes anything: it is a label: what it is worth is what the hold of that sum in a sandbox is worth. -/
noncomputable def Try.pinned : Pinned := { name := "ytmafbodblpgcjaa", sum := "4d94af5e8f2f8f5796dd77fb33d352af0f441e8ea934668085759571a91e882e", checked := Try.checked }
namespace Rows
def none {H : Type} : Left H := { results := [], args := [] }

/-- 'laws.FnDiff': WHATEVER THE INPUT: true; the input reads as it did. -/
def fnDiffSpec : ChangeSpec := { name := "fnDiff", fn := fun _ => fun
  | [d1, d2] => { results := [.lit (.bool true)], args := [d1, d2] }
  | _ => none }
def fnDiffRow : OpenClaim := { program := "ytmafbodblpgcjaa", sum := "4d94af5e8f2f8f5796dd77fb33d352af0f441e8ea934668085759571a91e882e", func := "loop.example/g00737/laws.FnDiff", spec := "fnDiff", unfollowed := true, recurses := true, apart := false }
def FnDiffSaid : Prop := fnDiffRow.holds Try.pinned (OpenSpec.ofChange fnDiffSpec)

/-- ITS FALSE NEIGHBOUR: 'it returns false'. Refute it at one input. -/
def fnDiffWrong : ChangeSpec := { name := "fnDiff", fn := fun _ => fun
  | [d1, d2] => { results := [.lit (.bool false)], args := [d1, d2] }
  | _ => none }
def FnDiffWrongFalsely : Prop := fnDiffRow.holds Try.pinned (OpenSpec.ofChange fnDiffWrong)

/-- 'laws.FnMerge': WHATEVER THE INPUT: true; the input reads as it did. -/
def fnMergeSpec : ChangeSpec := { name := "fnMerge", fn := fun _ => fun
  | [d1, d2] => { results := [.lit (.bool true)], args := [d1, d2] }
  | _ => none }
def fnMergeRow : OpenClaim := { program := "ytmafbodblpgcjaa", sum := "4d94af5e8f2f8f5796dd77fb33d352af0f441e8ea934668085759571a91e882e", func := "loop.example/g00737/laws.FnMerge", spec := "fnMerge", unfollowed := true, recurses := true, apart := false }
def FnMergeSaid : Prop := fnMergeRow.holds Try.pinned (OpenSpec.ofChange fnMergeSpec)

/-- ITS FALSE NEIGHBOUR: 'it returns false'. Refute it at one input. -/
def fnMergeWrong : ChangeSpec := { name := "fnMerge", fn := fun _ => fun
  | [d1, d2] => { results := [.lit (.bool false)], args := [d1, d2] }
  | _ => none }
def FnMergeWrongFalsely : Prop := fnMergeRow.holds Try.pinned (OpenSpec.ofChange fnMergeWrong)

/-- 'laws.FnSelfMerge': WHATEVER THE INPUT: true; the input reads as it did. -/
def fnSelfMergeSpec : ChangeSpec := { name := "fnSelfMerge", fn := fun _ => fun
  | [d1, d2] => { results := [.lit (.bool true)], args := [d1, d2] }
  | _ => none }
def fnSelfMergeRow : OpenClaim := { program := "ytmafbodblpgcjaa", sum := "4d94af5e8f2f8f5796dd77fb33d352af0f441e8ea934668085759571a91e882e", func := "loop.example/g00737/laws.FnSelfMerge", spec := "fnSelfMerge", unfollowed := true, recurses := true, apart := false }
def FnSelfMergeSaid : Prop := fnSelfMergeRow.holds Try.pinned (OpenSpec.ofChange fnSelfMergeSpec)

/-- ITS FALSE NEIGHBOUR: 'it returns false'. Refute it at one input. -/
def fnSelfMergeWrong : ChangeSpec := { name := "fnSelfMerge", fn := fun _ => fun
  | [d1, d2] => { results := [.lit (.bool false)], args := [d1, d2] }
  | _ => none }
def FnSelfMergeWrongFalsely : Prop := fnSelfMergeRow.holds Try.pinned (OpenSpec.ofChange fnSelfMergeWrong)

/-- 'laws.FnCommits': WHATEVER THE INPUT: true; the input reads as it did. -/
def fnCommitsSpec : ChangeSpec := { name := "fnCommits", fn := fun _ => fun
  | [d1, d2] => { results := [.lit (.bool true)], args := [d1, d2] }
  | _ => none }
def fnCommitsRow : OpenClaim := { program := "ytmafbodblpgcjaa", sum := "4d94af5e8f2f8f5796dd77fb33d352af0f441e8ea934668085759571a91e882e", func := "loop.example/g00737/laws.FnCommits", spec := "fnCommits", unfollowed := true, recurses := true, apart := false }
def FnCommitsSaid : Prop := fnCommitsRow.holds Try.pinned (OpenSpec.ofChange fnCommitsSpec)

/-- ITS FALSE NEIGHBOUR: 'it returns false'. Refute it at one input. -/
def fnCommitsWrong : ChangeSpec := { name := "fnCommits", fn := fun _ => fun
  | [d1, d2] => { results := [.lit (.bool false)], args := [d1, d2] }
  | _ => none }
def FnCommitsWrongFalsely : Prop := fnCommitsRow.holds Try.pinned (OpenSpec.ofChange fnCommitsWrong)

/-- 'laws.FnExactMergeEdits': WHATEVER THE INPUT: true; the input reads as it did. -/
def fnExactMergeEditsSpec : ChangeSpec := { name := "fnExactMergeEdits", fn := fun _ => fun
  | [d1, d2, d3] => { results := [.lit (.bool true)], args := [d1, d2, d3] }
  | _ => none }
def fnExactMergeEditsRow : OpenClaim := { program := "ytmafbodblpgcjaa", sum := "4d94af5e8f2f8f5796dd77fb33d352af0f441e8ea934668085759571a91e882e", func := "loop.example/g00737/laws.FnExactMergeEdits", spec := "fnExactMergeEdits", unfollowed := true, recurses := true, apart := false }
def FnExactMergeEditsSaid : Prop := fnExactMergeEditsRow.holds Try.pinned (OpenSpec.ofChange fnExactMergeEditsSpec)

/-- ITS FALSE NEIGHBOUR: 'it returns false'. Refute it at one input. -/
def fnExactMergeEditsWrong : ChangeSpec := { name := "fnExactMergeEdits", fn := fun _ => fun
  | [d1, d2, d3] => { results := [.lit (.bool false)], args := [d1, d2, d3] }
  | _ => none }
def FnExactMergeEditsWrongFalsely : Prop := fnExactMergeEditsRow.holds Try.pinned (OpenSpec.ofChange fnExactMergeEditsWrong)

/-- 'laws.FnExactRebase': WHATEVER THE INPUT: true; the input reads as it did. -/
def fnExactRebaseSpec : ChangeSpec := { name := "fnExactRebase", fn := fun _ => fun
  | [d1, d2, d3] => { results := [.lit (.bool true)], args := [d1, d2, d3] }
  | _ => none }
def fnExactRebaseRow : OpenClaim := { program := "ytmafbodblpgcjaa", sum := "4d94af5e8f2f8f5796dd77fb33d352af0f441e8ea934668085759571a91e882e", func := "loop.example/g00737/laws.FnExactRebase", spec := "fnExactRebase", unfollowed := true, recurses := true, apart := false }
def FnExactRebaseSaid : Prop := fnExactRebaseRow.holds Try.pinned (OpenSpec.ofChange fnExactRebaseSpec)

/-- ITS FALSE NEIGHBOUR: 'it returns false'. Refute it at one input. -/
def fnExactRebaseWrong : ChangeSpec := { name := "fnExactRebase", fn := fun _ => fun
  | [d1, d2, d3] => { results := [.lit (.bool false)], args := [d1, d2, d3] }
  | _ => none }
def FnExactRebaseWrongFalsely : Prop := fnExactRebaseRow.holds Try.pinned (OpenSpec.ofChange fnExactRebaseWrong)

/-- 'laws.FnExactStoreOK': WHATEVER THE INPUT: true; the input reads as it did. -/
def fnExactStoreOKSpec : ChangeSpec := { name := "fnExactStoreOK", fn := fun _ => fun
  | [d] => { results := [.lit (.bool true)], args := [d] }
  | _ => none }
def fnExactStoreOKRow : OpenClaim := { program := "ytmafbodblpgcjaa", sum := "4d94af5e8f2f8f5796dd77fb33d352af0f441e8ea934668085759571a91e882e", func := "loop.example/g00737/laws.FnExactStoreOK", spec := "fnExactStoreOK", unfollowed := true, recurses := true, apart := false }
def FnExactStoreOKSaid : Prop := fnExactStoreOKRow.holds Try.pinned (OpenSpec.ofChange fnExactStoreOKSpec)

/-- ITS FALSE NEIGHBOUR: 'it returns false'. Refute it at one input. -/
def fnExactStoreOKWrong : ChangeSpec := { name := "fnExactStoreOK", fn := fun _ => fun
  | [d] => { results := [.lit (.bool false)], args := [d] }
  | _ => none }
def FnExactStoreOKWrongFalsely : Prop := fnExactStoreOKRow.holds Try.pinned (OpenSpec.ofChange fnExactStoreOKWrong)

/-- 'laws.FnExactAddCommit': WHATEVER THE INPUT: true; the input reads as it did. -/
def fnExactAddCommitSpec : ChangeSpec := { name := "fnExactAddCommit", fn := fun _ => fun
  | [d1, d2] => { results := [.lit (.bool true)], args := [d1, d2] }
  | _ => none }
def fnExactAddCommitRow : OpenClaim := { program := "ytmafbodblpgcjaa", sum := "4d94af5e8f2f8f5796dd77fb33d352af0f441e8ea934668085759571a91e882e", func := "loop.example/g00737/laws.FnExactAddCommit", spec := "fnExactAddCommit", unfollowed := true, recurses := true, apart := false }
def FnExactAddCommitSaid : Prop := fnExactAddCommitRow.holds Try.pinned (OpenSpec.ofChange fnExactAddCommitSpec)

/-- ITS FALSE NEIGHBOUR: 'it returns false'. Refute it at one input. -/
def fnExactAddCommitWrong : ChangeSpec := { name := "fnExactAddCommit", fn := fun _ => fun
  | [d1, d2] => { results := [.lit (.bool false)], args := [d1, d2] }
  | _ => none }
def FnExactAddCommitWrongFalsely : Prop := fnExactAddCommitRow.holds Try.pinned (OpenSpec.ofChange fnExactAddCommitWrong)

/-- 'laws.FnExactAncestorsOf': WHATEVER THE INPUT: true; the input reads as it did. -/
def fnExactAncestorsOfSpec : ChangeSpec := { name := "fnExactAncestorsOf", fn := fun _ => fun
  | [d1, d2] => { results := [.lit (.bool true)], args := [d1, d2] }
  | _ => none }
def fnExactAncestorsOfRow : OpenClaim := { program := "ytmafbodblpgcjaa", sum := "4d94af5e8f2f8f5796dd77fb33d352af0f441e8ea934668085759571a91e882e", func := "loop.example/g00737/laws.FnExactAncestorsOf", spec := "fnExactAncestorsOf", unfollowed := true, recurses := true, apart := false }
def FnExactAncestorsOfSaid : Prop := fnExactAncestorsOfRow.holds Try.pinned (OpenSpec.ofChange fnExactAncestorsOfSpec)

/-- ITS FALSE NEIGHBOUR: 'it returns false'. Refute it at one input. -/
def fnExactAncestorsOfWrong : ChangeSpec := { name := "fnExactAncestorsOf", fn := fun _ => fun
  | [d1, d2] => { results := [.lit (.bool false)], args := [d1, d2] }
  | _ => none }
def FnExactAncestorsOfWrongFalsely : Prop := fnExactAncestorsOfRow.holds Try.pinned (OpenSpec.ofChange fnExactAncestorsOfWrong)

/-- 'laws.FnExactIsAncestor': WHATEVER THE INPUT: true; the input reads as it did. -/
def fnExactIsAncestorSpec : ChangeSpec := { name := "fnExactIsAncestor", fn := fun _ => fun
  | [d1, d2, d3] => { results := [.lit (.bool true)], args := [d1, d2, d3] }
  | _ => none }
def fnExactIsAncestorRow : OpenClaim := { program := "ytmafbodblpgcjaa", sum := "4d94af5e8f2f8f5796dd77fb33d352af0f441e8ea934668085759571a91e882e", func := "loop.example/g00737/laws.FnExactIsAncestor", spec := "fnExactIsAncestor", unfollowed := true, recurses := true, apart := false }
def FnExactIsAncestorSaid : Prop := fnExactIsAncestorRow.holds Try.pinned (OpenSpec.ofChange fnExactIsAncestorSpec)

/-- ITS FALSE NEIGHBOUR: 'it returns false'. Refute it at one input. -/
def fnExactIsAncestorWrong : ChangeSpec := { name := "fnExactIsAncestor", fn := fun _ => fun
  | [d1, d2, d3] => { results := [.lit (.bool false)], args := [d1, d2, d3] }
  | _ => none }
def FnExactIsAncestorWrongFalsely : Prop := fnExactIsAncestorRow.holds Try.pinned (OpenSpec.ofChange fnExactIsAncestorWrong)

/-- 'laws.FnExactBaseOf': WHATEVER THE INPUT: true; the input reads as it did. -/
def fnExactBaseOfSpec : ChangeSpec := { name := "fnExactBaseOf", fn := fun _ => fun
  | [d1, d2, d3] => { results := [.lit (.bool true)], args := [d1, d2, d3] }
  | _ => none }
def fnExactBaseOfRow : OpenClaim := { program := "ytmafbodblpgcjaa", sum := "4d94af5e8f2f8f5796dd77fb33d352af0f441e8ea934668085759571a91e882e", func := "loop.example/g00737/laws.FnExactBaseOf", spec := "fnExactBaseOf", unfollowed := true, recurses := true, apart := false }
def FnExactBaseOfSaid : Prop := fnExactBaseOfRow.holds Try.pinned (OpenSpec.ofChange fnExactBaseOfSpec)

/-- ITS FALSE NEIGHBOUR: 'it returns false'. Refute it at one input. -/
def fnExactBaseOfWrong : ChangeSpec := { name := "fnExactBaseOf", fn := fun _ => fun
  | [d1, d2, d3] => { results := [.lit (.bool false)], args := [d1, d2, d3] }
  | _ => none }
def FnExactBaseOfWrongFalsely : Prop := fnExactBaseOfRow.holds Try.pinned (OpenSpec.ofChange fnExactBaseOfWrong)

/-- 'laws.FnExactMergeCommits': WHATEVER THE INPUT: true; the input reads as it did. -/
def fnExactMergeCommitsSpec : ChangeSpec := { name := "fnExactMergeCommits", fn := fun _ => fun
  | [d1, d2, d3] => { results := [.lit (.bool true)], args := [d1, d2, d3] }
  | _ => none }
def fnExactMergeCommitsRow : OpenClaim := { program := "ytmafbodblpgcjaa", sum := "4d94af5e8f2f8f5796dd77fb33d352af0f441e8ea934668085759571a91e882e", func := "loop.example/g00737/laws.FnExactMergeCommits", spec := "fnExactMergeCommits", unfollowed := true, recurses := true, apart := false }
def FnExactMergeCommitsSaid : Prop := fnExactMergeCommitsRow.holds Try.pinned (OpenSpec.ofChange fnExactMergeCommitsSpec)

/-- ITS FALSE NEIGHBOUR: 'it returns false'. Refute it at one input. -/
def fnExactMergeCommitsWrong : ChangeSpec := { name := "fnExactMergeCommits", fn := fun _ => fun
  | [d1, d2, d3] => { results := [.lit (.bool false)], args := [d1, d2, d3] }
  | _ => none }
def FnExactMergeCommitsWrongFalsely : Prop := fnExactMergeCommitsRow.holds Try.pinned (OpenSpec.ofChange fnExactMergeCommitsWrong)

/-- 'laws.FnExactFirstLine': WHATEVER THE INPUT: true; the input reads as it did. -/
def fnExactFirstLineSpec : ChangeSpec := { name := "fnExactFirstLine", fn := fun _ => fun
  | [d1, d2] => { results := [.lit (.bool true)], args := [d1, d2] }
  | _ => none }
def fnExactFirstLineRow : OpenClaim := { program := "ytmafbodblpgcjaa", sum := "4d94af5e8f2f8f5796dd77fb33d352af0f441e8ea934668085759571a91e882e", func := "loop.example/g00737/laws.FnExactFirstLine", spec := "fnExactFirstLine", unfollowed := true, recurses := true, apart := false }
def FnExactFirstLineSaid : Prop := fnExactFirstLineRow.holds Try.pinned (OpenSpec.ofChange fnExactFirstLineSpec)

/-- ITS FALSE NEIGHBOUR: 'it returns false'. Refute it at one input. -/
def fnExactFirstLineWrong : ChangeSpec := { name := "fnExactFirstLine", fn := fun _ => fun
  | [d1, d2] => { results := [.lit (.bool false)], args := [d1, d2] }
  | _ => none }
def FnExactFirstLineWrongFalsely : Prop := fnExactFirstLineRow.holds Try.pinned (OpenSpec.ofChange fnExactFirstLineWrong)

/-- 'laws.FnExactSameStore': WHATEVER THE INPUT: true; the input reads as it did. -/
def fnExactSameStoreSpec : ChangeSpec := { name := "fnExactSameStore", fn := fun _ => fun
  | [d1, d2] => { results := [.lit (.bool true)], args := [d1, d2] }
  | _ => none }
def fnExactSameStoreRow : OpenClaim := { program := "ytmafbodblpgcjaa", sum := "4d94af5e8f2f8f5796dd77fb33d352af0f441e8ea934668085759571a91e882e", func := "loop.example/g00737/laws.FnExactSameStore", spec := "fnExactSameStore", unfollowed := true, recurses := true, apart := false }
def FnExactSameStoreSaid : Prop := fnExactSameStoreRow.holds Try.pinned (OpenSpec.ofChange fnExactSameStoreSpec)

/-- ITS FALSE NEIGHBOUR: 'it returns false'. Refute it at one input. -/
def fnExactSameStoreWrong : ChangeSpec := { name := "fnExactSameStore", fn := fun _ => fun
  | [d1, d2] => { results := [.lit (.bool false)], args := [d1, d2] }
  | _ => none }
def FnExactSameStoreWrongFalsely : Prop := fnExactSameStoreRow.holds Try.pinned (OpenSpec.ofChange fnExactSameStoreWrong)

/- THE SECOND FORM. 'bulk': how many values and letters a reading holds, each counted each time it is reached (what is shared counts as often as it is met; a slice's spare places count too). A statement '..UptoSaid' is the law's where the arguments, and the package variables that the reading takes, are together of bulk at most 1048576: NARROWER than '..Said'. Prove '..Said' where nothing that the law and all that it calls make is longer than what came in: it says more and counts as full. Else prove '..UptoSaid'. A law counts once. -/
mutual
def uptoBulk {H : Type} : DataW H → Nat
  | .lit (.string bytes) => bytes.length + 1
  | .lit _ => 1
  | .nil => 1
  | .ptr d => uptoBulk d + 1
  | .slice elems spare => uptoBulkAll elems + uptoBulkAll spare + 1
  | .agg parts => uptoBulkAll parts + 1
  | .iface _ d => uptoBulk d + 1
  | .map entries => uptoBulkEntries entries + 1
  | .held _ => 1
def uptoBulkAll {H : Type} : List (DataW H) → Nat
  | [] => 0
  | d :: r => uptoBulk d + uptoBulkAll r
def uptoBulkEntries {H : Type} : List (Lit × DataW H) → Nat
  | [] => 0
  | x :: r => uptoBulkEntry x + uptoBulkEntries r
def uptoBulkEntry {H : Type} : Lit × DataW H → Nat
  | (.string bytes, d) => bytes.length + uptoBulk d + 1
  | (_, d) => uptoBulk d + 1
 end
def uptoSmall : (H : Type) → List (DataW H) → Bool := fun _ ds => decide (uptoBulkAll ds ≤ 1048576)
def OpenSpec.upto (s : _root_.Go.ChangeSpec) : _root_.Go.OpenSpec := { _root_.Go.OpenSpec.ofChange s with cond := some uptoSmall }

/-- 'laws.FnDiff', WHERE WHAT IT READS IS OF BULK AT MOST 1048576: true; the input reads as it did. -/
def fnDiffUptoRow : OpenClaim := { program := "ytmafbodblpgcjaa", sum := "4d94af5e8f2f8f5796dd77fb33d352af0f441e8ea934668085759571a91e882e", func := "loop.example/g00737/laws.FnDiff", spec := "fnDiff", unfollowed := true, recurses := true, apart := false, narrowed := true }
def FnDiffUptoSaid : Prop := fnDiffUptoRow.holds Try.pinned (OpenSpec.upto fnDiffSpec)

/-- 'laws.FnMerge', WHERE WHAT IT READS IS OF BULK AT MOST 1048576: true; the input reads as it did. -/
def fnMergeUptoRow : OpenClaim := { program := "ytmafbodblpgcjaa", sum := "4d94af5e8f2f8f5796dd77fb33d352af0f441e8ea934668085759571a91e882e", func := "loop.example/g00737/laws.FnMerge", spec := "fnMerge", unfollowed := true, recurses := true, apart := false, narrowed := true }
def FnMergeUptoSaid : Prop := fnMergeUptoRow.holds Try.pinned (OpenSpec.upto fnMergeSpec)

/-- 'laws.FnSelfMerge', WHERE WHAT IT READS IS OF BULK AT MOST 1048576: true; the input reads as it did. -/
def fnSelfMergeUptoRow : OpenClaim := { program := "ytmafbodblpgcjaa", sum := "4d94af5e8f2f8f5796dd77fb33d352af0f441e8ea934668085759571a91e882e", func := "loop.example/g00737/laws.FnSelfMerge", spec := "fnSelfMerge", unfollowed := true, recurses := true, apart := false, narrowed := true }
def FnSelfMergeUptoSaid : Prop := fnSelfMergeUptoRow.holds Try.pinned (OpenSpec.upto fnSelfMergeSpec)

/-- 'laws.FnCommits', WHERE WHAT IT READS IS OF BULK AT MOST 1048576: true; the input reads as it did. -/
def fnCommitsUptoRow : OpenClaim := { program := "ytmafbodblpgcjaa", sum := "4d94af5e8f2f8f5796dd77fb33d352af0f441e8ea934668085759571a91e882e", func := "loop.example/g00737/laws.FnCommits", spec := "fnCommits", unfollowed := true, recurses := true, apart := false, narrowed := true }
def FnCommitsUptoSaid : Prop := fnCommitsUptoRow.holds Try.pinned (OpenSpec.upto fnCommitsSpec)

/-- 'laws.FnExactMergeEdits', WHERE WHAT IT READS IS OF BULK AT MOST 1048576: true; the input reads as it did. -/
def fnExactMergeEditsUptoRow : OpenClaim := { program := "ytmafbodblpgcjaa", sum := "4d94af5e8f2f8f5796dd77fb33d352af0f441e8ea934668085759571a91e882e", func := "loop.example/g00737/laws.FnExactMergeEdits", spec := "fnExactMergeEdits", unfollowed := true, recurses := true, apart := false, narrowed := true }
def FnExactMergeEditsUptoSaid : Prop := fnExactMergeEditsUptoRow.holds Try.pinned (OpenSpec.upto fnExactMergeEditsSpec)

/-- 'laws.FnExactRebase', WHERE WHAT IT READS IS OF BULK AT MOST 1048576: true; the input reads as it did. -/
def fnExactRebaseUptoRow : OpenClaim := { program := "ytmafbodblpgcjaa", sum := "4d94af5e8f2f8f5796dd77fb33d352af0f441e8ea934668085759571a91e882e", func := "loop.example/g00737/laws.FnExactRebase", spec := "fnExactRebase", unfollowed := true, recurses := true, apart := false, narrowed := true }
def FnExactRebaseUptoSaid : Prop := fnExactRebaseUptoRow.holds Try.pinned (OpenSpec.upto fnExactRebaseSpec)

/-- 'laws.FnExactStoreOK', WHERE WHAT IT READS IS OF BULK AT MOST 1048576: true; the input reads as it did. -/
def fnExactStoreOKUptoRow : OpenClaim := { program := "ytmafbodblpgcjaa", sum := "4d94af5e8f2f8f5796dd77fb33d352af0f441e8ea934668085759571a91e882e", func := "loop.example/g00737/laws.FnExactStoreOK", spec := "fnExactStoreOK", unfollowed := true, recurses := true, apart := false, narrowed := true }
def FnExactStoreOKUptoSaid : Prop := fnExactStoreOKUptoRow.holds Try.pinned (OpenSpec.upto fnExactStoreOKSpec)

/-- 'laws.FnExactAddCommit', WHERE WHAT IT READS IS OF BULK AT MOST 1048576: true; the input reads as it did. -/
def fnExactAddCommitUptoRow : OpenClaim := { program := "ytmafbodblpgcjaa", sum := "4d94af5e8f2f8f5796dd77fb33d352af0f441e8ea934668085759571a91e882e", func := "loop.example/g00737/laws.FnExactAddCommit", spec := "fnExactAddCommit", unfollowed := true, recurses := true, apart := false, narrowed := true }
def FnExactAddCommitUptoSaid : Prop := fnExactAddCommitUptoRow.holds Try.pinned (OpenSpec.upto fnExactAddCommitSpec)

/-- 'laws.FnExactAncestorsOf', WHERE WHAT IT READS IS OF BULK AT MOST 1048576: true; the input reads as it did. -/
def fnExactAncestorsOfUptoRow : OpenClaim := { program := "ytmafbodblpgcjaa", sum := "4d94af5e8f2f8f5796dd77fb33d352af0f441e8ea934668085759571a91e882e", func := "loop.example/g00737/laws.FnExactAncestorsOf", spec := "fnExactAncestorsOf", unfollowed := true, recurses := true, apart := false, narrowed := true }
def FnExactAncestorsOfUptoSaid : Prop := fnExactAncestorsOfUptoRow.holds Try.pinned (OpenSpec.upto fnExactAncestorsOfSpec)

/-- 'laws.FnExactIsAncestor', WHERE WHAT IT READS IS OF BULK AT MOST 1048576: true; the input reads as it did. -/
def fnExactIsAncestorUptoRow : OpenClaim := { program := "ytmafbodblpgcjaa", sum := "4d94af5e8f2f8f5796dd77fb33d352af0f441e8ea934668085759571a91e882e", func := "loop.example/g00737/laws.FnExactIsAncestor", spec := "fnExactIsAncestor", unfollowed := true, recurses := true, apart := false, narrowed := true }
def FnExactIsAncestorUptoSaid : Prop := fnExactIsAncestorUptoRow.holds Try.pinned (OpenSpec.upto fnExactIsAncestorSpec)

/-- 'laws.FnExactBaseOf', WHERE WHAT IT READS IS OF BULK AT MOST 1048576: true; the input reads as it did. -/
def fnExactBaseOfUptoRow : OpenClaim := { program := "ytmafbodblpgcjaa", sum := "4d94af5e8f2f8f5796dd77fb33d352af0f441e8ea934668085759571a91e882e", func := "loop.example/g00737/laws.FnExactBaseOf", spec := "fnExactBaseOf", unfollowed := true, recurses := true, apart := false, narrowed := true }
def FnExactBaseOfUptoSaid : Prop := fnExactBaseOfUptoRow.holds Try.pinned (OpenSpec.upto fnExactBaseOfSpec)

/-- 'laws.FnExactMergeCommits', WHERE WHAT IT READS IS OF BULK AT MOST 1048576: true; the input reads as it did. -/
def fnExactMergeCommitsUptoRow : OpenClaim := { program := "ytmafbodblpgcjaa", sum := "4d94af5e8f2f8f5796dd77fb33d352af0f441e8ea934668085759571a91e882e", func := "loop.example/g00737/laws.FnExactMergeCommits", spec := "fnExactMergeCommits", unfollowed := true, recurses := true, apart := false, narrowed := true }
def FnExactMergeCommitsUptoSaid : Prop := fnExactMergeCommitsUptoRow.holds Try.pinned (OpenSpec.upto fnExactMergeCommitsSpec)

/-- 'laws.FnExactFirstLine', WHERE WHAT IT READS IS OF BULK AT MOST 1048576: true; the input reads as it did. -/
def fnExactFirstLineUptoRow : OpenClaim := { program := "ytmafbodblpgcjaa", sum := "4d94af5e8f2f8f5796dd77fb33d352af0f441e8ea934668085759571a91e882e", func := "loop.example/g00737/laws.FnExactFirstLine", spec := "fnExactFirstLine", unfollowed := true, recurses := true, apart := false, narrowed := true }
def FnExactFirstLineUptoSaid : Prop := fnExactFirstLineUptoRow.holds Try.pinned (OpenSpec.upto fnExactFirstLineSpec)

/-- 'laws.FnExactSameStore', WHERE WHAT IT READS IS OF BULK AT MOST 1048576: true; the input reads as it did. -/
def fnExactSameStoreUptoRow : OpenClaim := { program := "ytmafbodblpgcjaa", sum := "4d94af5e8f2f8f5796dd77fb33d352af0f441e8ea934668085759571a91e882e", func := "loop.example/g00737/laws.FnExactSameStore", spec := "fnExactSameStore", unfollowed := true, recurses := true, apart := false, narrowed := true }
def FnExactSameStoreUptoSaid : Prop := fnExactSameStoreUptoRow.holds Try.pinned (OpenSpec.upto fnExactSameStoreSpec)

end Rows
end Go.Proofs.Ytmafbodblpgcjaa
