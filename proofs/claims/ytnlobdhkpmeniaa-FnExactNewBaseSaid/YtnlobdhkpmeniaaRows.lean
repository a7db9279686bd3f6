/-
  No cell of these rows narrows 'for every input' (looked for: loops, veiled, ifaces, maps, wideKeys, modest, calm, conditions, laid).
  DERIVED. THE GIVEN ROWS OF THIS SEAT. 12 by the template 'for every input the law returns true; each argument reads behind the call as it read before'; 0 by the template 'total and deterministic' (their statements: YtnlobdhkpmeniaaTotals.lean).
  GIVEN WITH THE SEED: the statements are not yours to turn. If you find one false, say at which input.
  Laid BY PROGRAM, IN A SANDBOX (cutbox-rows.mjs): the forced cells as the released guide's own fill.sh prints them over the translation b6e78fa8f139485a… (all of the seat's roots in one cut). By AI agents, Wed Nov 11 2026. No macro, syntax, notation, axiom, sorry.
-/
import Derived.Test.YtnlobdhkpmeniaaChecked
import GoSem.Claim
import GoSem.ClaimJoined
import GoSem.ClaimMapViews
import Derived.JoinedTies
import Derived.KernelRfl
namespace Go.Proofs.Ytnlobdhkpmeniaa
/- THE CELL 'sum', in the pinned program and in every row, IS THE sha256 OF THE DUMP (.gsa) THAT YtnlobdhkpmeniaaProg.lean LOADS. Nothing in Lean hashes anything: it is a label: what it is worth is what the hold of that sum in a sandbox is worth. -/
noncomputable def Try.pinned : Pinned := { name := "ytnlobdhkpmeniaa", sum := "b6e78fa8f139485a2560760d518b2c21a55ff8975bebbd76d82d78979b9e4a36", checked := Try.checked }
namespace Rows
def none {H : Type} : Left H := { results := [], args := [] }

/-- 'laws.FnExactAddCommit': WHATEVER THE INPUT: true; the input reads as it did. -/
def fnExactAddCommitSpec : ChangeSpec := { name := "fnExactAddCommit", fn := fun _ => fun
  | [d1, d2] => { results := [.lit (.bool true)], args := [d1, d2] }
  | _ => none }
def fnExactAddCommitRow : OpenClaim := { program := "ytnlobdhkpmeniaa", sum := "b6e78fa8f139485a2560760d518b2c21a55ff8975bebbd76d82d78979b9e4a36", func := "loop.example/g00737/laws.FnExactAddCommit", spec := "fnExactAddCommit", unfollowed := true, recurses := true, apart := false }
def FnExactAddCommitSaid : Prop := fnExactAddCommitRow.holds Try.pinned (OpenSpec.ofChange fnExactAddCommitSpec)

/-- ITS FALSE NEIGHBOUR: 'it returns false'. Refute it at one input. -/
def fnExactAddCommitWrong : ChangeSpec := { name := "fnExactAddCommit", fn := fun _ => fun
  | [d1, d2] => { results := [.lit (.bool false)], args := [d1, d2] }
  | _ => none }
def FnExactAddCommitWrongFalsely : Prop := fnExactAddCommitRow.holds Try.pinned (OpenSpec.ofChange fnExactAddCommitWrong)

/-- 'laws.FnExactNewBase': WHATEVER THE INPUT: true; the input reads as it did. -/
def fnExactNewBaseSpec : ChangeSpec := { name := "fnExactNewBase", fn := fun _ => fun
  | [d] => { results := [.lit (.bool true)], args := [d] }
  | _ => none }
def fnExactNewBaseRow : OpenClaim := { program := "ytnlobdhkpmeniaa", sum := "b6e78fa8f139485a2560760d518b2c21a55ff8975bebbd76d82d78979b9e4a36", func := "loop.example/g00737/laws.FnExactNewBase", spec := "fnExactNewBase", unfollowed := true, recurses := true, apart := false }
def FnExactNewBaseSaid : Prop := fnExactNewBaseRow.holds Try.pinned (OpenSpec.ofChange fnExactNewBaseSpec)

/-- ITS FALSE NEIGHBOUR: 'it returns false'. Refute it at one input. -/
def fnExactNewBaseWrong : ChangeSpec := { name := "fnExactNewBase", fn := fun _ => fun
  | [d] => { results := [.lit (.bool false)], args := [d] }
  | _ => none }
def FnExactNewBaseWrongFalsely : Prop := fnExactNewBaseRow.holds Try.pinned (OpenSpec.ofChange fnExactNewBaseWrong)

/-- 'laws.FnExactWatchOK': WHATEVER THE INPUT: true; the input reads as it did. -/
def fnExactWatchOKSpec : ChangeSpec := { name := "fnExactWatchOK", fn := fun _ => fun
  | [d] => { results := [.lit (.bool true)], args := [d] }
  | _ => none }
def fnExactWatchOKRow : OpenClaim := { program := "ytnlobdhkpmeniaa", sum := "b6e78fa8f139485a2560760d518b2c21a55ff8975bebbd76d82d78979b9e4a36", func := "loop.example/g00737/laws.FnExactWatchOK", spec := "fnExactWatchOK", unfollowed := true, recurses := true, apart := false }
def FnExactWatchOKSaid : Prop := fnExactWatchOKRow.holds Try.pinned (OpenSpec.ofChange fnExactWatchOKSpec)

/-- ITS FALSE NEIGHBOUR: 'it returns false'. Refute it at one input. -/
def fnExactWatchOKWrong : ChangeSpec := { name := "fnExactWatchOK", fn := fun _ => fun
  | [d] => { results := [.lit (.bool false)], args := [d] }
  | _ => none }
def FnExactWatchOKWrongFalsely : Prop := fnExactWatchOKRow.holds Try.pinned (OpenSpec.ofChange fnExactWatchOKWrong)

/-- 'laws.FnExactEventsOK': WHATEVER THE INPUT: true; the input reads as it did. -/
def fnExactEventsOKSpec : ChangeSpec := { name := "fnExactEventsOK", fn := fun _ => fun
  | [d] => { results := [.lit (.bool true)], args := [d] }
  | _ => none }
def fnExactEventsOKRow : OpenClaim := { program := "ytnlobdhkpmeniaa", sum := "b6e78fa8f139485a2560760d518b2c21a55ff8975bebbd76d82d78979b9e4a36", func := "loop.example/g00737/laws.FnExactEventsOK", spec := "fnExactEventsOK", apart := false }
def FnExactEventsOKSaid : Prop := fnExactEventsOKRow.holds Try.pinned (OpenSpec.ofChange fnExactEventsOKSpec)

/-- ITS FALSE NEIGHBOUR: 'it returns false'. Refute it at one input. -/
def fnExactEventsOKWrong : ChangeSpec := { name := "fnExactEventsOK", fn := fun _ => fun
  | [d] => { results := [.lit (.bool false)], args := [d] }
  | _ => none }
def FnExactEventsOKWrongFalsely : Prop := fnExactEventsOKRow.holds Try.pinned (OpenSpec.ofChange fnExactEventsOKWrong)

/-- 'laws.FnExactSameWatch': WHATEVER THE INPUT: true; the input reads as it did. -/
def fnExactSameWatchSpec : ChangeSpec := { name := "fnExactSameWatch", fn := fun _ => fun
  | [d1, d2] => { results := [.lit (.bool true)], args := [d1, d2] }
  | _ => none }
def fnExactSameWatchRow : OpenClaim := { program := "ytnlobdhkpmeniaa", sum := "b6e78fa8f139485a2560760d518b2c21a55ff8975bebbd76d82d78979b9e4a36", func := "loop.example/g00737/laws.FnExactSameWatch", spec := "fnExactSameWatch", unfollowed := true, recurses := true, apart := false }
def FnExactSameWatchSaid : Prop := fnExactSameWatchRow.holds Try.pinned (OpenSpec.ofChange fnExactSameWatchSpec)

/-- ITS FALSE NEIGHBOUR: 'it returns false'. Refute it at one input. -/
def fnExactSameWatchWrong : ChangeSpec := { name := "fnExactSameWatch", fn := fun _ => fun
  | [d1, d2] => { results := [.lit (.bool false)], args := [d1, d2] }
  | _ => none }
def FnExactSameWatchWrongFalsely : Prop := fnExactSameWatchRow.holds Try.pinned (OpenSpec.ofChange fnExactSameWatchWrong)

/-- 'laws.FnExactNewWatch': WHATEVER THE INPUT: true; the input reads as it did. -/
def fnExactNewWatchSpec : ChangeSpec := { name := "fnExactNewWatch", fn := fun _ => fun
  | [d1, d2] => { results := [.lit (.bool true)], args := [d1, d2] }
  | _ => none }
def fnExactNewWatchRow : OpenClaim := { program := "ytnlobdhkpmeniaa", sum := "b6e78fa8f139485a2560760d518b2c21a55ff8975bebbd76d82d78979b9e4a36", func := "loop.example/g00737/laws.FnExactNewWatch", spec := "fnExactNewWatch", unfollowed := true, recurses := true, apart := false }
def FnExactNewWatchSaid : Prop := fnExactNewWatchRow.holds Try.pinned (OpenSpec.ofChange fnExactNewWatchSpec)

/-- ITS FALSE NEIGHBOUR: 'it returns false'. Refute it at one input. -/
def fnExactNewWatchWrong : ChangeSpec := { name := "fnExactNewWatch", fn := fun _ => fun
  | [d1, d2] => { results := [.lit (.bool false)], args := [d1, d2] }
  | _ => none }
def FnExactNewWatchWrongFalsely : Prop := fnExactNewWatchRow.holds Try.pinned (OpenSpec.ofChange fnExactNewWatchWrong)

/-- 'laws.FnExactNextEvent': WHATEVER THE INPUT: true; the input reads as it did. -/
def fnExactNextEventSpec : ChangeSpec := { name := "fnExactNextEvent", fn := fun _ => fun
  | [d] => { results := [.lit (.bool true)], args := [d] }
  | _ => none }
def fnExactNextEventRow : OpenClaim := { program := "ytnlobdhkpmeniaa", sum := "b6e78fa8f139485a2560760d518b2c21a55ff8975bebbd76d82d78979b9e4a36", func := "loop.example/g00737/laws.FnExactNextEvent", spec := "fnExactNextEvent", unfollowed := true, recurses := true, apart := false }
def FnExactNextEventSaid : Prop := fnExactNextEventRow.holds Try.pinned (OpenSpec.ofChange fnExactNextEventSpec)

/-- ITS FALSE NEIGHBOUR: 'it returns false'. Refute it at one input. -/
def fnExactNextEventWrong : ChangeSpec := { name := "fnExactNextEvent", fn := fun _ => fun
  | [d] => { results := [.lit (.bool false)], args := [d] }
  | _ => none }
def FnExactNextEventWrongFalsely : Prop := fnExactNextEventRow.holds Try.pinned (OpenSpec.ofChange fnExactNextEventWrong)

/-- 'laws.FnExactDrainWatch': WHATEVER THE INPUT: true; the input reads as it did. -/
def fnExactDrainWatchSpec : ChangeSpec := { name := "fnExactDrainWatch", fn := fun _ => fun
  | [d] => { results := [.lit (.bool true)], args := [d] }
  | _ => none }
def fnExactDrainWatchRow : OpenClaim := { program := "ytnlobdhkpmeniaa", sum := "b6e78fa8f139485a2560760d518b2c21a55ff8975bebbd76d82d78979b9e4a36", func := "loop.example/g00737/laws.FnExactDrainWatch", spec := "fnExactDrainWatch", unfollowed := true, recurses := true, apart := false }
def FnExactDrainWatchSaid : Prop := fnExactDrainWatchRow.holds Try.pinned (OpenSpec.ofChange fnExactDrainWatchSpec)

/-- ITS FALSE NEIGHBOUR: 'it returns false'. Refute it at one input. -/
def fnExactDrainWatchWrong : ChangeSpec := { name := "fnExactDrainWatch", fn := fun _ => fun
  | [d] => { results := [.lit (.bool false)], args := [d] }
  | _ => none }
def FnExactDrainWatchWrongFalsely : Prop := fnExactDrainWatchRow.holds Try.pinned (OpenSpec.ofChange fnExactDrainWatchWrong)

/-- 'laws.FnExactNoteRef': WHATEVER THE INPUT: true; the input reads as it did. -/
def fnExactNoteRefSpec : ChangeSpec := { name := "fnExactNoteRef", fn := fun _ => fun
  | [d1, d2] => { results := [.lit (.bool true)], args := [d1, d2] }
  | _ => none }
def fnExactNoteRefRow : OpenClaim := { program := "ytnlobdhkpmeniaa", sum := "b6e78fa8f139485a2560760d518b2c21a55ff8975bebbd76d82d78979b9e4a36", func := "loop.example/g00737/laws.FnExactNoteRef", spec := "fnExactNoteRef", unfollowed := true, recurses := true, apart := false }
def FnExactNoteRefSaid : Prop := fnExactNoteRefRow.holds Try.pinned (OpenSpec.ofChange fnExactNoteRefSpec)

/-- ITS FALSE NEIGHBOUR: 'it returns false'. Refute it at one input. -/
def fnExactNoteRefWrong : ChangeSpec := { name := "fnExactNoteRef", fn := fun _ => fun
  | [d1, d2] => { results := [.lit (.bool false)], args := [d1, d2] }
  | _ => none }
def FnExactNoteRefWrongFalsely : Prop := fnExactNoteRefRow.holds Try.pinned (OpenSpec.ofChange fnExactNoteRefWrong)

/-- 'laws.FnExactCreateRef': WHATEVER THE INPUT: true; the input reads as it did. -/
def fnExactCreateRefSpec : ChangeSpec := { name := "fnExactCreateRef", fn := fun _ => fun
  | [d1, d2, d3] => { results := [.lit (.bool true)], args := [d1, d2, d3] }
  | _ => none }
def fnExactCreateRefRow : OpenClaim := { program := "ytnlobdhkpmeniaa", sum := "b6e78fa8f139485a2560760d518b2c21a55ff8975bebbd76d82d78979b9e4a36", func := "loop.example/g00737/laws.FnExactCreateRef", spec := "fnExactCreateRef", inPlace := ["sync/atomic.StorePointer", "sync/atomic.LoadPointer", "sync/atomic.CompareAndSwapPointer"], unfollowed := true, recurses := true, apart := false }
def FnExactCreateRefSaid : Prop := fnExactCreateRefRow.holds Try.pinned (OpenSpec.ofChange fnExactCreateRefSpec)

/-- ITS FALSE NEIGHBOUR: 'it returns false'. Refute it at one input. -/
def fnExactCreateRefWrong : ChangeSpec := { name := "fnExactCreateRef", fn := fun _ => fun
  | [d1, d2, d3] => { results := [.lit (.bool false)], args := [d1, d2, d3] }
  | _ => none }
def FnExactCreateRefWrongFalsely : Prop := fnExactCreateRefRow.holds Try.pinned (OpenSpec.ofChange fnExactCreateRefWrong)

/-- 'laws.FnExactDeleteRef': WHATEVER THE INPUT: true; the input reads as it did. -/
def fnExactDeleteRefSpec : ChangeSpec := { name := "fnExactDeleteRef", fn := fun _ => fun
  | [d1, d2] => { results := [.lit (.bool true)], args := [d1, d2] }
  | _ => none }
def fnExactDeleteRefRow : OpenClaim := { program := "ytnlobdhkpmeniaa", sum := "b6e78fa8f139485a2560760d518b2c21a55ff8975bebbd76d82d78979b9e4a36", func := "loop.example/g00737/laws.FnExactDeleteRef", spec := "fnExactDeleteRef", inPlace := ["sync/atomic.StorePointer", "sync/atomic.LoadPointer", "sync/atomic.CompareAndSwapPointer"], unfollowed := true, recurses := true, apart := false }
def FnExactDeleteRefSaid : Prop := fnExactDeleteRefRow.holds Try.pinned (OpenSpec.ofChange fnExactDeleteRefSpec)

/-- ITS FALSE NEIGHBOUR: 'it returns false'. Refute it at one input. -/
def fnExactDeleteRefWrong : ChangeSpec := { name := "fnExactDeleteRef", fn := fun _ => fun
  | [d1, d2] => { results := [.lit (.bool false)], args := [d1, d2] }
  | _ => none }
def FnExactDeleteRefWrongFalsely : Prop := fnExactDeleteRefRow.holds Try.pinned (OpenSpec.ofChange fnExactDeleteRefWrong)

/-- 'laws.FnExactSwapRef': WHATEVER THE INPUT: true; the input reads as it did. -/
def fnExactSwapRefSpec : ChangeSpec := { name := "fnExactSwapRef", fn := fun _ => fun
  | [d1, d2, d3, d4] => { results := [.lit (.bool true)], args := [d1, d2, d3, d4] }
  | _ => none }
def fnExactSwapRefRow : OpenClaim := { program := "ytnlobdhkpmeniaa", sum := "b6e78fa8f139485a2560760d518b2c21a55ff8975bebbd76d82d78979b9e4a36", func := "loop.example/g00737/laws.FnExactSwapRef", spec := "fnExactSwapRef", inPlace := ["sync/atomic.StorePointer", "sync/atomic.LoadPointer", "sync/atomic.CompareAndSwapPointer"], unfollowed := true, recurses := true, apart := false }
def FnExactSwapRefSaid : Prop := fnExactSwapRefRow.holds Try.pinned (OpenSpec.ofChange fnExactSwapRefSpec)

/-- ITS FALSE NEIGHBOUR: 'it returns false'. Refute it at one input. -/
def fnExactSwapRefWrong : ChangeSpec := { name := "fnExactSwapRef", fn := fun _ => fun
  | [d1, d2, d3, d4] => { results := [.lit (.bool false)], args := [d1, d2, d3, d4] }
  | _ => none }
def FnExactSwapRefWrongFalsely : Prop := fnExactSwapRefRow.holds Try.pinned (OpenSpec.ofChange fnExactSwapRefWrong)

/- THE SECOND FORM. 'bulk': how many values and letters a reading holds, each counted each time it is reached (what is shared counts as often as it is met; a slice's spare places count too). A statement '..UptoSaid' is the law's where the arguments, and the package variables that the reading takes, are together of bulk at most 1048576: NARROWER than '..Said'. Prove '..Said' where nothing that the law and all that it calls make is longer than what came in: it says more and counts as full. Else prove '..UptoSaid'. A law counts once. -/
mutual
def uptoBulk {H : Type} : DataW H → Nat
  | .lit (.string bytes) => bytes.length + 1
  | .lit _ => 1
  | .nil => 1
  | .ptr d => uptoBulk d + 1
  | .slice elems spare => uptoBulkAll elems + uptoBulkAll spare + 1
  | .agg parts => uptoBulkAll parts + 1
  | .iface _ d => uptoBulk d + 1
  | .map entries => uptoBulkEntries entries + 1
  | .held _ => 1
def uptoBulkAll {H : Type} : List (DataW H) → Nat
  | [] => 0
  | d :: r => uptoBulk d + uptoBulkAll r
def uptoBulkEntries {H : Type} : List (Lit × DataW H) → Nat
  | [] => 0
  | x :: r => uptoBulkEntry x + uptoBulkEntries r
def uptoBulkEntry {H : Type} : Lit × DataW H → Nat
  | (.string bytes, d) => bytes.length + uptoBulk d + 1
  | (_, d) => uptoBulk d + 1
 end
def uptoSmall : (H : Type) → List (DataW H) → Bool := fun _ ds => decide (uptoBulkAll ds ≤ 1048576)
def OpenSpec.upto (s : _root_.Go.ChangeSpec) : _root_.Go.OpenSpec := { _root_.Go.OpenSpec.ofChange s with cond := some uptoSmall }

/-- 'laws.FnExactAddCommit', WHERE WHAT IT READS IS OF BULK AT MOST 1048576: true; the input reads as it did. -/
def fnExactAddCommitUptoRow : OpenClaim := { program := "ytnlobdhkpmeniaa", sum := "b6e78fa8f139485a2560760d518b2c21a55ff8975bebbd76d82d78979b9e4a36", func := "loop.example/g00737/laws.FnExactAddCommit", spec := "fnExactAddCommit", unfollowed := true, recurses := true, apart := false, narrowed := true }
def FnExactAddCommitUptoSaid : Prop := fnExactAddCommitUptoRow.holds Try.pinned (OpenSpec.upto fnExactAddCommitSpec)

/-- 'laws.FnExactNewBase', WHERE WHAT IT READS IS OF BULK AT MOST 1048576: true; the input reads as it did. -/
def fnExactNewBaseUptoRow : OpenClaim := { program := "ytnlobdhkpmeniaa", sum := "b6e78fa8f139485a2560760d518b2c21a55ff8975bebbd76d82d78979b9e4a36", func := "loop.example/g00737/laws.FnExactNewBase", spec := "fnExactNewBase", unfollowed := true, recurses := true, apart := false, narrowed := true }
def FnExactNewBaseUptoSaid : Prop := fnExactNewBaseUptoRow.holds Try.pinned (OpenSpec.upto fnExactNewBaseSpec)

/-- 'laws.FnExactWatchOK', WHERE WHAT IT READS IS OF BULK AT MOST 1048576: true; the input reads as it did. -/
def fnExactWatchOKUptoRow : OpenClaim := { program := "ytnlobdhkpmeniaa", sum := "b6e78fa8f139485a2560760d518b2c21a55ff8975bebbd76d82d78979b9e4a36", func := "loop.example/g00737/laws.FnExactWatchOK", spec := "fnExactWatchOK", unfollowed := true, recurses := true, apart := false, narrowed := true }
def FnExactWatchOKUptoSaid : Prop := fnExactWatchOKUptoRow.holds Try.pinned (OpenSpec.upto fnExactWatchOKSpec)

/-- 'laws.FnExactEventsOK', WHERE WHAT IT READS IS OF BULK AT MOST 1048576: true; the input reads as it did. -/
def fnExactEventsOKUptoRow : OpenClaim := { program := "ytnlobdhkpmeniaa", sum := "b6e78fa8f139485a2560760d518b2c21a55ff8975bebbd76d82d78979b9e4a36", func := "loop.example/g00737/laws.FnExactEventsOK", spec := "fnExactEventsOK", apart := false, narrowed := true }
def FnExactEventsOKUptoSaid : Prop := fnExactEventsOKUptoRow.holds Try.pinned (OpenSpec.upto fnExactEventsOKSpec)

/-- 'laws.FnExactSameWatch', WHERE WHAT IT READS IS OF BULK AT MOST 1048576: true; the input reads as it did. -/
def fnExactSameWatchUptoRow : OpenClaim := { program := "ytnlobdhkpmeniaa", sum := "b6e78fa8f139485a2560760d518b2c21a55ff8975bebbd76d82d78979b9e4a36", func := "loop.example/g00737/laws.FnExactSameWatch", spec := "fnExactSameWatch", unfollowed := true, recurses := true, apart := false, narrowed := true }
def FnExactSameWatchUptoSaid : Prop := fnExactSameWatchUptoRow.holds Try.pinned (OpenSpec.upto fnExactSameWatchSpec)

/-- 'laws.FnExactNewWatch', WHERE WHAT IT READS IS OF BULK AT MOST 1048576: true; the input reads as it did. -/
def fnExactNewWatchUptoRow : OpenClaim := { program := "ytnlobdhkpmeniaa", sum := "b6e78fa8f139485a2560760d518b2c21a55ff8975bebbd76d82d78979b9e4a36", func := "loop.example/g00737/laws.FnExactNewWatch", spec := "fnExactNewWatch", unfollowed := true, recurses := true, apart := false, narrowed := true }
def FnExactNewWatchUptoSaid : Prop := fnExactNewWatchUptoRow.holds Try.pinned (OpenSpec.upto fnExactNewWatchSpec)

/-- 'laws.FnExactNextEvent', WHERE WHAT IT READS IS OF BULK AT MOST 1048576: true; the input reads as it did. -/
def fnExactNextEventUptoRow : OpenClaim := { program := "ytnlobdhkpmeniaa", sum := "b6e78fa8f139485a2560760d518b2c21a55ff8975bebbd76d82d78979b9e4a36", func := "loop.example/g00737/laws.FnExactNextEvent", spec := "fnExactNextEvent", unfollowed := true, recurses := true, apart := false, narrowed := true }
def FnExactNextEventUptoSaid : Prop := fnExactNextEventUptoRow.holds Try.pinned (OpenSpec.upto fnExactNextEventSpec)

/-- 'laws.FnExactDrainWatch', WHERE WHAT IT READS IS OF BULK AT MOST 1048576: true; the input reads as it did. -/
def fnExactDrainWatchUptoRow : OpenClaim := { program := "ytnlobdhkpmeniaa", sum := "b6e78fa8f139485a2560760d518b2c21a55ff8975bebbd76d82d78979b9e4a36", func := "loop.example/g00737/laws.FnExactDrainWatch", spec := "fnExactDrainWatch", unfollowed := true, recurses := true, apart := false, narrowed := true }
def FnExactDrainWatchUptoSaid : Prop := fnExactDrainWatchUptoRow.holds Try.pinned (OpenSpec.upto fnExactDrainWatchSpec)

/-- 'laws.FnExactNoteRef', WHERE WHAT IT READS IS OF BULK AT MOST 1048576: true; the input reads as it did. -/
def fnExactNoteRefUptoRow : OpenClaim := { program := "ytnlobdhkpmeniaa", sum := "b6e78fa8f139485a2560760d518b2c21a55ff8975bebbd76d82d78979b9e4a36", func := "loop.example/g00737/laws.FnExactNoteRef", spec := "fnExactNoteRef", unfollowed := true, recurses := true, apart := false, narrowed := true }
def FnExactNoteRefUptoSaid : Prop := fnExactNoteRefUptoRow.holds Try.pinned (OpenSpec.upto fnExactNoteRefSpec)

/-- 'laws.FnExactCreateRef', WHERE WHAT IT READS IS OF BULK AT MOST 1048576: true; the input reads as it did. -/
def fnExactCreateRefUptoRow : OpenClaim := { program := "ytnlobdhkpmeniaa", sum := "b6e78fa8f139485a2560760d518b2c21a55ff8975bebbd76d82d78979b9e4a36", func := "loop.example/g00737/laws.FnExactCreateRef", spec := "fnExactCreateRef", inPlace := ["sync/atomic.StorePointer", "sync/atomic.LoadPointer", "sync/atomic.CompareAndSwapPointer"], unfollowed := true, recurses := true, apart := false, narrowed := true }
def FnExactCreateRefUptoSaid : Prop := fnExactCreateRefUptoRow.holds Try.pinned (OpenSpec.upto fnExactCreateRefSpec)

/-- 'laws.FnExactDeleteRef', WHERE WHAT IT READS IS OF BULK AT MOST 1048576: true; the input reads as it did. -/
def fnExactDeleteRefUptoRow : OpenClaim := { program := "ytnlobdhkpmeniaa", sum := "b6e78fa8f139485a2560760d518b2c21a55ff8975bebbd76d82d78979b9e4a36", func := "loop.example/g00737/laws.FnExactDeleteRef", spec := "fnExactDeleteRef", inPlace := ["sync/atomic.StorePointer", "sync/atomic.LoadPointer", "sync/atomic.CompareAndSwapPointer"], unfollowed := true, recurses := true, apart := false, narrowed := true }
def FnExactDeleteRefUptoSaid : Prop := fnExactDeleteRefUptoRow.holds Try.pinned (OpenSpec.upto fnExactDeleteRefSpec)

/-- 'laws.FnExactSwapRef', WHERE WHAT IT READS IS OF BULK AT MOST 1048576: true; the input reads as it did. -/
def fnExactSwapRefUptoRow : OpenClaim := { program := "ytnlobdhkpmeniaa", sum := "b6e78fa8f139485a2560760d518b2c21a55ff8975bebbd76d82d78979b9e4a36", func := "loop.example/g00737/laws.FnExactSwapRef", spec := "fnExactSwapRef", inPlace := ["sync/atomic.StorePointer", "sync/atomic.LoadPointer", "sync/atomic.CompareAndSwapPointer"], unfollowed := true, recurses := true, apart := false, narrowed := true }
def FnExactSwapRefUptoSaid : Prop := fnExactSwapRefUptoRow.holds Try.pinned (OpenSpec.upto fnExactSwapRefSpec)

end Rows
end Go.Proofs.Ytnlobdhkpmeniaa
