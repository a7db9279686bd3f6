/-
  No cell of these rows narrows 'for every input' (looked for: loops, veiled, ifaces, maps, wideKeys, modest, calm, conditions, laid).
  DERIVED. THE GIVEN ROWS OF THIS SEAT. 13 by the template 'for every input the law returns true; each argument reads behind the call as it read before'; 0 by the template 'total and deterministic' (their statements: YtjhimcddgkoghaaTotals.lean).
  GIVEN WITH THE SEED: the statements are not yours to turn. If you find one false, say at which input.
  Laid BY PROGRAM, IN A SANDBOX (cutbox-rows.mjs): the forced cells as the released guide's own fill.sh prints them over the translation b330042ada6eb819… (all of the seat's roots in one cut). By AI agents, Wed Nov 11 2026. No macro, syntax, notation, axiom, sorry.
-/
import Derived.Test.YtjhimcddgkoghaaChecked
import GoSem.Claim
import GoSem.ClaimJoined
import GoSem.ClaimMapViews
import Derived.JoinedTies
import Derived.KernelRfl
namespace Go.Proofs.Ytjhimcddgkoghaa
/- THE CELL 'sum', in the pinned program and in every row, IS THE sha256 OF THE DUMP (.gsa) THAT YtjhimcddgkoghaaProg.lean LOADS. Nothing in Lean hashes anything: it is a label: what it is worth is what the hold of that sum in a sandbox is worth. -/
noncomputable def Try.pinned : Pinned := { name := "ytjhimcddgkoghaa", sum := "b330042ada6eb81963c2dc9501a3f64a71d323509a555989c0699b6c4f39103b", checked := Try.checked }
namespace Rows
def none {H : Type} : Left H := { results := [], args := [] }

/-- 'laws.FnExactWishOK': WHATEVER THE INPUT: true; the input reads as it did. -/
def fnExactWishOKSpec : ChangeSpec := { name := "fnExactWishOK", fn := fun _ => fun
  | [d] => { results := [.lit (.bool true)], args := [d] }
  | _ => none }
def fnExactWishOKRow : OpenClaim := { program := "ytjhimcddgkoghaa", sum := "b330042ada6eb81963c2dc9501a3f64a71d323509a555989c0699b6c4f39103b", func := "loop.example/g00737/laws.FnExactWishOK", spec := "fnExactWishOK", unfollowed := true, recurses := true, apart := false }
def FnExactWishOKSaid : Prop := fnExactWishOKRow.holds Try.pinned (OpenSpec.ofChange fnExactWishOKSpec)

/-- ITS FALSE NEIGHBOUR: 'it returns false'. Refute it at one input. -/
def fnExactWishOKWrong : ChangeSpec := { name := "fnExactWishOK", fn := fun _ => fun
  | [d] => { results := [.lit (.bool false)], args := [d] }
  | _ => none }
def FnExactWishOKWrongFalsely : Prop := fnExactWishOKRow.holds Try.pinned (OpenSpec.ofChange fnExactWishOKWrong)

/-- 'laws.FnExactNewClient': WHATEVER THE INPUT: true; the input reads as it did. -/
def fnExactNewClientSpec : ChangeSpec := { name := "fnExactNewClient", fn := fun _ => fun
  | [d] => { results := [.lit (.bool true)], args := [d] }
  | _ => none }
def fnExactNewClientRow : OpenClaim := { program := "ytjhimcddgkoghaa", sum := "b330042ada6eb81963c2dc9501a3f64a71d323509a555989c0699b6c4f39103b", func := "loop.example/g00737/laws.FnExactNewClient", spec := "fnExactNewClient", unfollowed := true, recurses := true, apart := false }
def FnExactNewClientSaid : Prop := fnExactNewClientRow.holds Try.pinned (OpenSpec.ofChange fnExactNewClientSpec)

/-- ITS FALSE NEIGHBOUR: 'it returns false'. Refute it at one input. -/
def fnExactNewClientWrong : ChangeSpec := { name := "fnExactNewClient", fn := fun _ => fun
  | [d] => { results := [.lit (.bool false)], args := [d] }
  | _ => none }
def FnExactNewClientWrongFalsely : Prop := fnExactNewClientRow.holds Try.pinned (OpenSpec.ofChange fnExactNewClientWrong)

/-- 'laws.FnExactSameClient': WHATEVER THE INPUT: true; the input reads as it did. -/
def fnExactSameClientSpec : ChangeSpec := { name := "fnExactSameClient", fn := fun _ => fun
  | [d1, d2] => { results := [.lit (.bool true)], args := [d1, d2] }
  | _ => none }
def fnExactSameClientRow : OpenClaim := { program := "ytjhimcddgkoghaa", sum := "b330042ada6eb81963c2dc9501a3f64a71d323509a555989c0699b6c4f39103b", func := "loop.example/g00737/laws.FnExactSameClient", spec := "fnExactSameClient", unfollowed := true, recurses := true, apart := false }
def FnExactSameClientSaid : Prop := fnExactSameClientRow.holds Try.pinned (OpenSpec.ofChange fnExactSameClientSpec)

/-- ITS FALSE NEIGHBOUR: 'it returns false'. Refute it at one input. -/
def fnExactSameClientWrong : ChangeSpec := { name := "fnExactSameClient", fn := fun _ => fun
  | [d1, d2] => { results := [.lit (.bool false)], args := [d1, d2] }
  | _ => none }
def FnExactSameClientWrongFalsely : Prop := fnExactSameClientRow.holds Try.pinned (OpenSpec.ofChange fnExactSameClientWrong)

/-- 'laws.FnExactSameMoment': WHATEVER THE INPUT: true; the input reads as it did. -/
def fnExactSameMomentSpec : ChangeSpec := { name := "fnExactSameMoment", fn := fun _ => fun
  | [d1, d2] => { results := [.lit (.bool true)], args := [d1, d2] }
  | _ => none }
def fnExactSameMomentRow : OpenClaim := { program := "ytjhimcddgkoghaa", sum := "b330042ada6eb81963c2dc9501a3f64a71d323509a555989c0699b6c4f39103b", func := "loop.example/g00737/laws.FnExactSameMoment", spec := "fnExactSameMoment", unfollowed := true, recurses := true, apart := false }
def FnExactSameMomentSaid : Prop := fnExactSameMomentRow.holds Try.pinned (OpenSpec.ofChange fnExactSameMomentSpec)

/-- ITS FALSE NEIGHBOUR: 'it returns false'. Refute it at one input. -/
def fnExactSameMomentWrong : ChangeSpec := { name := "fnExactSameMoment", fn := fun _ => fun
  | [d1, d2] => { results := [.lit (.bool false)], args := [d1, d2] }
  | _ => none }
def FnExactSameMomentWrongFalsely : Prop := fnExactSameMomentRow.holds Try.pinned (OpenSpec.ofChange fnExactSameMomentWrong)

/-- 'laws.FnExactNoteRef': WHATEVER THE INPUT: true; the input reads as it did. -/
def fnExactNoteRefSpec : ChangeSpec := { name := "fnExactNoteRef", fn := fun _ => fun
  | [d1, d2] => { results := [.lit (.bool true)], args := [d1, d2] }
  | _ => none }
def fnExactNoteRefRow : OpenClaim := { program := "ytjhimcddgkoghaa", sum := "b330042ada6eb81963c2dc9501a3f64a71d323509a555989c0699b6c4f39103b", func := "loop.example/g00737/laws.FnExactNoteRef", spec := "fnExactNoteRef", unfollowed := true, recurses := true, apart := false }
def FnExactNoteRefSaid : Prop := fnExactNoteRefRow.holds Try.pinned (OpenSpec.ofChange fnExactNoteRefSpec)

/-- ITS FALSE NEIGHBOUR: 'it returns false'. Refute it at one input. -/
def fnExactNoteRefWrong : ChangeSpec := { name := "fnExactNoteRef", fn := fun _ => fun
  | [d1, d2] => { results := [.lit (.bool false)], args := [d1, d2] }
  | _ => none }
def FnExactNoteRefWrongFalsely : Prop := fnExactNoteRefRow.holds Try.pinned (OpenSpec.ofChange fnExactNoteRefWrong)

/-- 'laws.FnExactCreateRef': WHATEVER THE INPUT: true; the input reads as it did. -/
def fnExactCreateRefSpec : ChangeSpec := { name := "fnExactCreateRef", fn := fun _ => fun
  | [d1, d2, d3] => { results := [.lit (.bool true)], args := [d1, d2, d3] }
  | _ => none }
def fnExactCreateRefRow : OpenClaim := { program := "ytjhimcddgkoghaa", sum := "b330042ada6eb81963c2dc9501a3f64a71d323509a555989c0699b6c4f39103b", func := "loop.example/g00737/laws.FnExactCreateRef", spec := "fnExactCreateRef", inPlace := ["sync/atomic.StorePointer", "sync/atomic.LoadPointer", "sync/atomic.CompareAndSwapPointer"], unfollowed := true, recurses := true, apart := false }
def FnExactCreateRefSaid : Prop := fnExactCreateRefRow.holds Try.pinned (OpenSpec.ofChange fnExactCreateRefSpec)

/-- ITS FALSE NEIGHBOUR: 'it returns false'. Refute it at one input. -/
def fnExactCreateRefWrong : ChangeSpec := { name := "fnExactCreateRef", fn := fun _ => fun
  | [d1, d2, d3] => { results := [.lit (.bool false)], args := [d1, d2, d3] }
  | _ => none }
def FnExactCreateRefWrongFalsely : Prop := fnExactCreateRefRow.holds Try.pinned (OpenSpec.ofChange fnExactCreateRefWrong)

/-- 'laws.FnExactDeleteRef': WHATEVER THE INPUT: true; the input reads as it did. -/
def fnExactDeleteRefSpec : ChangeSpec := { name := "fnExactDeleteRef", fn := fun _ => fun
  | [d1, d2] => { results := [.lit (.bool true)], args := [d1, d2] }
  | _ => none }
def fnExactDeleteRefRow : OpenClaim := { program := "ytjhimcddgkoghaa", sum := "b330042ada6eb81963c2dc9501a3f64a71d323509a555989c0699b6c4f39103b", func := "loop.example/g00737/laws.FnExactDeleteRef", spec := "fnExactDeleteRef", inPlace := ["sync/atomic.StorePointer", "sync/atomic.LoadPointer", "sync/atomic.CompareAndSwapPointer"], unfollowed := true, recurses := true, apart := false }
def FnExactDeleteRefSaid : Prop := fnExactDeleteRefRow.holds Try.pinned (OpenSpec.ofChange fnExactDeleteRefSpec)

/-- ITS FALSE NEIGHBOUR: 'it returns false'. Refute it at one input. -/
def fnExactDeleteRefWrong : ChangeSpec := { name := "fnExactDeleteRef", fn := fun _ => fun
  | [d1, d2] => { results := [.lit (.bool false)], args := [d1, d2] }
  | _ => none }
def FnExactDeleteRefWrongFalsely : Prop := fnExactDeleteRefRow.holds Try.pinned (OpenSpec.ofChange fnExactDeleteRefWrong)

/-- 'laws.FnExactSwapRef': WHATEVER THE INPUT: true; the input reads as it did. -/
def fnExactSwapRefSpec : ChangeSpec := { name := "fnExactSwapRef", fn := fun _ => fun
  | [d1, d2, d3, d4] => { results := [.lit (.bool true)], args := [d1, d2, d3, d4] }
  | _ => none }
def fnExactSwapRefRow : OpenClaim := { program := "ytjhimcddgkoghaa", sum := "b330042ada6eb81963c2dc9501a3f64a71d323509a555989c0699b6c4f39103b", func := "loop.example/g00737/laws.FnExactSwapRef", spec := "fnExactSwapRef", inPlace := ["sync/atomic.StorePointer", "sync/atomic.LoadPointer", "sync/atomic.CompareAndSwapPointer"], unfollowed := true, recurses := true, apart := false }
def FnExactSwapRefSaid : Prop := fnExactSwapRefRow.holds Try.pinned (OpenSpec.ofChange fnExactSwapRefSpec)

/-- ITS FALSE NEIGHBOUR: 'it returns false'. Refute it at one input. -/
def fnExactSwapRefWrong : ChangeSpec := { name := "fnExactSwapRef", fn := fun _ => fun
  | [d1, d2, d3, d4] => { results := [.lit (.bool false)], args := [d1, d2, d3, d4] }
  | _ => none }
def FnExactSwapRefWrongFalsely : Prop := fnExactSwapRefRow.holds Try.pinned (OpenSpec.ofChange fnExactSwapRefWrong)

/-- 'laws.FnDiff': WHATEVER THE INPUT: true; the input reads as it did. -/
def fnDiffSpec : ChangeSpec := { name := "fnDiff", fn := fun _ => fun
  | [d1, d2] => { results := [.lit (.bool true)], args := [d1, d2] }
  | _ => none }
def fnDiffRow : OpenClaim := { program := "ytjhimcddgkoghaa", sum := "b330042ada6eb81963c2dc9501a3f64a71d323509a555989c0699b6c4f39103b", func := "loop.example/g00737/laws.FnDiff", spec := "fnDiff", unfollowed := true, recurses := true, apart := false }
def FnDiffSaid : Prop := fnDiffRow.holds Try.pinned (OpenSpec.ofChange fnDiffSpec)

/-- ITS FALSE NEIGHBOUR: 'it returns false'. Refute it at one input. -/
def fnDiffWrong : ChangeSpec := { name := "fnDiff", fn := fun _ => fun
  | [d1, d2] => { results := [.lit (.bool false)], args := [d1, d2] }
  | _ => none }
def FnDiffWrongFalsely : Prop := fnDiffRow.holds Try.pinned (OpenSpec.ofChange fnDiffWrong)

/-- 'laws.FnSelfMerge': WHATEVER THE INPUT: true; the input reads as it did. -/
def fnSelfMergeSpec : ChangeSpec := { name := "fnSelfMerge", fn := fun _ => fun
  | [d1, d2] => { results := [.lit (.bool true)], args := [d1, d2] }
  | _ => none }
def fnSelfMergeRow : OpenClaim := { program := "ytjhimcddgkoghaa", sum := "b330042ada6eb81963c2dc9501a3f64a71d323509a555989c0699b6c4f39103b", func := "loop.example/g00737/laws.FnSelfMerge", spec := "fnSelfMerge", unfollowed := true, recurses := true, apart := false }
def FnSelfMergeSaid : Prop := fnSelfMergeRow.holds Try.pinned (OpenSpec.ofChange fnSelfMergeSpec)

/-- ITS FALSE NEIGHBOUR: 'it returns false'. Refute it at one input. -/
def fnSelfMergeWrong : ChangeSpec := { name := "fnSelfMerge", fn := fun _ => fun
  | [d1, d2] => { results := [.lit (.bool false)], args := [d1, d2] }
  | _ => none }
def FnSelfMergeWrongFalsely : Prop := fnSelfMergeRow.holds Try.pinned (OpenSpec.ofChange fnSelfMergeWrong)

/-- 'laws.FnMerge': WHATEVER THE INPUT: true; the input reads as it did. -/
def fnMergeSpec : ChangeSpec := { name := "fnMerge", fn := fun _ => fun
  | [d1, d2] => { results := [.lit (.bool true)], args := [d1, d2] }
  | _ => none }
def fnMergeRow : OpenClaim := { program := "ytjhimcddgkoghaa", sum := "b330042ada6eb81963c2dc9501a3f64a71d323509a555989c0699b6c4f39103b", func := "loop.example/g00737/laws.FnMerge", spec := "fnMerge", unfollowed := true, recurses := true, apart := false }
def FnMergeSaid : Prop := fnMergeRow.holds Try.pinned (OpenSpec.ofChange fnMergeSpec)

/-- ITS FALSE NEIGHBOUR: 'it returns false'. Refute it at one input. -/
def fnMergeWrong : ChangeSpec := { name := "fnMerge", fn := fun _ => fun
  | [d1, d2] => { results := [.lit (.bool false)], args := [d1, d2] }
  | _ => none }
def FnMergeWrongFalsely : Prop := fnMergeRow.holds Try.pinned (OpenSpec.ofChange fnMergeWrong)

/-- 'laws.FnCommits': WHATEVER THE INPUT: true; the input reads as it did. -/
def fnCommitsSpec : ChangeSpec := { name := "fnCommits", fn := fun _ => fun
  | [d1, d2] => { results := [.lit (.bool true)], args := [d1, d2] }
  | _ => none }
def fnCommitsRow : OpenClaim := { program := "ytjhimcddgkoghaa", sum := "b330042ada6eb81963c2dc9501a3f64a71d323509a555989c0699b6c4f39103b", func := "loop.example/g00737/laws.FnCommits", spec := "fnCommits", unfollowed := true, recurses := true, apart := false }
def FnCommitsSaid : Prop := fnCommitsRow.holds Try.pinned (OpenSpec.ofChange fnCommitsSpec)

/-- ITS FALSE NEIGHBOUR: 'it returns false'. Refute it at one input. -/
def fnCommitsWrong : ChangeSpec := { name := "fnCommits", fn := fun _ => fun
  | [d1, d2] => { results := [.lit (.bool false)], args := [d1, d2] }
  | _ => none }
def FnCommitsWrongFalsely : Prop := fnCommitsRow.holds Try.pinned (OpenSpec.ofChange fnCommitsWrong)

/-- 'laws.FnRefs': WHATEVER THE INPUT: true; the input reads as it did. -/
def fnRefsSpec : ChangeSpec := { name := "fnRefs", fn := fun _ => fun
  | [d1, d2] => { results := [.lit (.bool true)], args := [d1, d2] }
  | _ => none }
def fnRefsRow : OpenClaim := { program := "ytjhimcddgkoghaa", sum := "b330042ada6eb81963c2dc9501a3f64a71d323509a555989c0699b6c4f39103b", func := "loop.example/g00737/laws.FnRefs", spec := "fnRefs", inPlace := ["sync/atomic.StorePointer", "sync/atomic.LoadPointer", "sync/atomic.CompareAndSwapPointer"], unfollowed := true, recurses := true, apart := false }
def FnRefsSaid : Prop := fnRefsRow.holds Try.pinned (OpenSpec.ofChange fnRefsSpec)

/-- ITS FALSE NEIGHBOUR: 'it returns false'. Refute it at one input. -/
def fnRefsWrong : ChangeSpec := { name := "fnRefs", fn := fun _ => fun
  | [d1, d2] => { results := [.lit (.bool false)], args := [d1, d2] }
  | _ => none }
def FnRefsWrongFalsely : Prop := fnRefsRow.holds Try.pinned (OpenSpec.ofChange fnRefsWrong)

/- THE SECOND FORM. 'bulk': how many values and letters a reading holds, each counted each time it is reached (what is shared counts as often as it is met; a slice's spare places count too). A statement '..UptoSaid' is the law's where the arguments, and the package variables that the reading takes, are together of bulk at most 1048576: NARROWER than '..Said'. Prove '..Said' where nothing that the law and all that it calls make is longer than what came in: it says more and counts as full. Else prove '..UptoSaid'. A law counts once. -/
mutual
def uptoBulk {H : Type} : DataW H → Nat
  | .lit (.string bytes) => bytes.length + 1
  | .lit _ => 1
  | .nil => 1
  | .ptr d => uptoBulk d + 1
  | .slice elems spare => uptoBulkAll elems + uptoBulkAll spare + 1
  | .agg parts => uptoBulkAll parts + 1
  | .iface _ d => uptoBulk d + 1
  | .map entries => uptoBulkEntries entries + 1
  | .held _ => 1
def uptoBulkAll {H : Type} : List (DataW H) → Nat
  | [] => 0
  | d :: r => uptoBulk d + uptoBulkAll r
def uptoBulkEntries {H : Type} : List (Lit × DataW H) → Nat
  | [] => 0
  | x :: r => uptoBulkEntry x + uptoBulkEntries r
def uptoBulkEntry {H : Type} : Lit × DataW H → Nat
  | (.string bytes, d) => bytes.length + uptoBulk d + 1
  | (_, d) => uptoBulk d + 1
 end
def uptoSmall : (H : Type) → List (DataW H) → Bool := fun _ ds => decide (uptoBulkAll ds ≤ 1048576)
def OpenSpec.upto (s : _root_.Go.ChangeSpec) : _root_.Go.OpenSpec := { _root_.Go.OpenSpec.ofChange s with cond := some uptoSmall }

/-- 'laws.FnExactWishOK', WHERE WHAT IT READS IS OF BULK AT MOST 1048576: true; the input reads as it did. -/
def fnExactWishOKUptoRow : OpenClaim := { program := "ytjhimcddgkoghaa", sum := "b330042ada6eb81963c2dc9501a3f64a71d323509a555989c0699b6c4f39103b", func := "loop.example/g00737/laws.FnExactWishOK", spec := "fnExactWishOK", unfollowed := true, recurses := true, apart := false, narrowed := true }
def FnExactWishOKUptoSaid : Prop := fnExactWishOKUptoRow.holds Try.pinned (OpenSpec.upto fnExactWishOKSpec)

/-- 'laws.FnExactNewClient', WHERE WHAT IT READS IS OF BULK AT MOST 1048576: true; the input reads as it did. -/
def fnExactNewClientUptoRow : OpenClaim := { program := "ytjhimcddgkoghaa", sum := "b330042ada6eb81963c2dc9501a3f64a71d323509a555989c0699b6c4f39103b", func := "loop.example/g00737/laws.FnExactNewClient", spec := "fnExactNewClient", unfollowed := true, recurses := true, apart := false, narrowed := true }
def FnExactNewClientUptoSaid : Prop := fnExactNewClientUptoRow.holds Try.pinned (OpenSpec.upto fnExactNewClientSpec)

/-- 'laws.FnExactSameClient', WHERE WHAT IT READS IS OF BULK AT MOST 1048576: true; the input reads as it did. -/
def fnExactSameClientUptoRow : OpenClaim := { program := "ytjhimcddgkoghaa", sum := "b330042ada6eb81963c2dc9501a3f64a71d323509a555989c0699b6c4f39103b", func := "loop.example/g00737/laws.FnExactSameClient", spec := "fnExactSameClient", unfollowed := true, recurses := true, apart := false, narrowed := true }
def FnExactSameClientUptoSaid : Prop := fnExactSameClientUptoRow.holds Try.pinned (OpenSpec.upto fnExactSameClientSpec)

/-- 'laws.FnExactSameMoment', WHERE WHAT IT READS IS OF BULK AT MOST 1048576: true; the input reads as it did. -/
def fnExactSameMomentUptoRow : OpenClaim := { program := "ytjhimcddgkoghaa", sum := "b330042ada6eb81963c2dc9501a3f64a71d323509a555989c0699b6c4f39103b", func := "loop.example/g00737/laws.FnExactSameMoment", spec := "fnExactSameMoment", unfollowed := true, recurses := true, apart := false, narrowed := true }
def FnExactSameMomentUptoSaid : Prop := fnExactSameMomentUptoRow.holds Try.pinned (OpenSpec.upto fnExactSameMomentSpec)

/-- 'laws.FnExactNoteRef', WHERE WHAT IT READS IS OF BULK AT MOST 1048576: true; the input reads as it did. -/
def fnExactNoteRefUptoRow : OpenClaim := { program := "ytjhimcddgkoghaa", sum := "b330042ada6eb81963c2dc9501a3f64a71d323509a555989c0699b6c4f39103b", func := "loop.example/g00737/laws.FnExactNoteRef", spec := "fnExactNoteRef", unfollowed := true, recurses := true, apart := false, narrowed := true }
def FnExactNoteRefUptoSaid : Prop := fnExactNoteRefUptoRow.holds Try.pinned (OpenSpec.upto fnExactNoteRefSpec)

/-- 'laws.FnExactCreateRef', WHERE WHAT IT READS IS OF BULK AT MOST 1048576: true; the input reads as it did. -/
def fnExactCreateRefUptoRow : OpenClaim := { program := "ytjhimcddgkoghaa", sum := "b330042ada6eb81963c2dc9501a3f64a71d323509a555989c0699b6c4f39103b", func := "loop.example/g00737/laws.FnExactCreateRef", spec := "fnExactCreateRef", inPlace := ["sync/atomic.StorePointer", "sync/atomic.LoadPointer", "sync/atomic.CompareAndSwapPointer"], unfollowed := true, recurses := true, apart := false, narrowed := true }
def FnExactCreateRefUptoSaid : Prop := fnExactCreateRefUptoRow.holds Try.pinned (OpenSpec.upto fnExactCreateRefSpec)

/-- 'laws.FnExactDeleteRef', WHERE WHAT IT READS IS OF BULK AT MOST 1048576: true; the input reads as it did. -/
def fnExactDeleteRefUptoRow : OpenClaim := { program := "ytjhimcddgkoghaa", sum := "b330042ada6eb81963c2dc9501a3f64a71d323509a555989c0699b6c4f39103b", func := "loop.example/g00737/laws.FnExactDeleteRef", spec := "fnExactDeleteRef", inPlace := ["sync/atomic.StorePointer", "sync/atomic.LoadPointer", "sync/atomic.CompareAndSwapPointer"], unfollowed := true, recurses := true, apart := false, narrowed := true }
def FnExactDeleteRefUptoSaid : Prop := fnExactDeleteRefUptoRow.holds Try.pinned (OpenSpec.upto fnExactDeleteRefSpec)

/-- 'laws.FnExactSwapRef', WHERE WHAT IT READS IS OF BULK AT MOST 1048576: true; the input reads as it did. -/
def fnExactSwapRefUptoRow : OpenClaim := { program := "ytjhimcddgkoghaa", sum := "b330042ada6eb81963c2dc9501a3f64a71d323509a555989c0699b6c4f39103b", func := "loop.example/g00737/laws.FnExactSwapRef", spec := "fnExactSwapRef", inPlace := ["sync/atomic.StorePointer", "sync/atomic.LoadPointer", "sync/atomic.CompareAndSwapPointer"], unfollowed := true, recurses := true, apart := false, narrowed := true }
def FnExactSwapRefUptoSaid : Prop := fnExactSwapRefUptoRow.holds Try.pinned (OpenSpec.upto fnExactSwapRefSpec)

/-- 'laws.FnDiff', WHERE WHAT IT READS IS OF BULK AT MOST 1048576: true; the input reads as it did. -/
def fnDiffUptoRow : OpenClaim := { program := "ytjhimcddgkoghaa", sum := "b330042ada6eb81963c2dc9501a3f64a71d323509a555989c0699b6c4f39103b", func := "loop.example/g00737/laws.FnDiff", spec := "fnDiff", unfollowed := true, recurses := true, apart := false, narrowed := true }
def FnDiffUptoSaid : Prop := fnDiffUptoRow.holds Try.pinned (OpenSpec.upto fnDiffSpec)

/-- 'laws.FnSelfMerge', WHERE WHAT IT READS IS OF BULK AT MOST 1048576: true; the input reads as it did. -/
def fnSelfMergeUptoRow : OpenClaim := { program := "ytjhimcddgkoghaa", sum := "b330042ada6eb81963c2dc9501a3f64a71d323509a555989c0699b6c4f39103b", func := "loop.example/g00737/laws.FnSelfMerge", spec := "fnSelfMerge", unfollowed := true, recurses := true, apart := false, narrowed := true }
def FnSelfMergeUptoSaid : Prop := fnSelfMergeUptoRow.holds Try.pinned (OpenSpec.upto fnSelfMergeSpec)

/-- 'laws.FnMerge', WHERE WHAT IT READS IS OF BULK AT MOST 1048576: true; the input reads as it did. -/
def fnMergeUptoRow : OpenClaim := { program := "ytjhimcddgkoghaa", sum := "b330042ada6eb81963c2dc9501a3f64a71d323509a555989c0699b6c4f39103b", func := "loop.example/g00737/laws.FnMerge", spec := "fnMerge", unfollowed := true, recurses := true, apart := false, narrowed := true }
def FnMergeUptoSaid : Prop := fnMergeUptoRow.holds Try.pinned (OpenSpec.upto fnMergeSpec)

/-- 'laws.FnCommits', WHERE WHAT IT READS IS OF BULK AT MOST 1048576: true; the input reads as it did. -/
def fnCommitsUptoRow : OpenClaim := { program := "ytjhimcddgkoghaa", sum := "b330042ada6eb81963c2dc9501a3f64a71d323509a555989c0699b6c4f39103b", func := "loop.example/g00737/laws.FnCommits", spec := "fnCommits", unfollowed := true, recurses := true, apart := false, narrowed := true }
def FnCommitsUptoSaid : Prop := fnCommitsUptoRow.holds Try.pinned (OpenSpec.upto fnCommitsSpec)

/-- 'laws.FnRefs', WHERE WHAT IT READS IS OF BULK AT MOST 1048576: true; the input reads as it did. -/
def fnRefsUptoRow : OpenClaim := { program := "ytjhimcddgkoghaa", sum := "b330042ada6eb81963c2dc9501a3f64a71d323509a555989c0699b6c4f39103b", func := "loop.example/g00737/laws.FnRefs", spec := "fnRefs", inPlace := ["sync/atomic.StorePointer", "sync/atomic.LoadPointer", "sync/atomic.CompareAndSwapPointer"], unfollowed := true, recurses := true, apart := false, narrowed := true }
def FnRefsUptoSaid : Prop := fnRefsUptoRow.holds Try.pinned (OpenSpec.upto fnRefsSpec)

end Rows
end Go.Proofs.Ytjhimcddgkoghaa
