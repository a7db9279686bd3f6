/-
  No cell of these rows narrows 'for every input' (looked for: loops, veiled, ifaces, maps, wideKeys, modest, calm, conditions, laid).
  DERIVED. THE GIVEN ROWS OF THIS SEAT. 9 by the template 'for every input the law returns true; each argument reads behind the call as it read before'; 0 by the template 'total and deterministic' (their statements: YtlihobpedkldpaaTotals.lean).
  GIVEN WITH THE SEED: the statements are not yours to turn. If you find one false, say at which input.
  Laid BY PROGRAM, IN A SANDBOX (cutbox-rows.mjs): the forced cells as the released guide's own fill.sh prints them over the translation dc159f34f41a5041… (all of the seat's roots in one cut). By AI agents, Wed Nov 11 2026. No macro, syntax, notation, axiom, sorry.
-/
import Derived.Test.YtlihobpedkldpaaChecked
import GoSem.Claim
import GoSem.ClaimJoined
import GoSem.ClaimMapViews
import Derived.JoinedTies
import Derived.KernelRfl
namespace Go.Proofs.Ytlihobpedkldpaa
/- THE CELL 'sum', in the pinned program and in every row, IS THE sha256 OF THE DUMP (.gsa) THAT YtlihobpedkldpaaProg.lean LOADS. Nothing in Lean hashes anything: it is a label: what it is worth is what the hold of that sum in a sandbox is worth. -/
noncomputable def Try.pinned : Pinned := { name := "ytlihobpedkldpaa", sum := "dc159f34f41a50414d566b527a24daf83085e140048eef26637d8b300ec9ecd7", checked := Try.checked }
namespace Rows
def none {H : Type} : Left H := { results := [], args := [] }

/-- 'laws.FnExactOpOK': WHATEVER THE INPUT: true; the input reads as it did. -/
def fnExactOpOKSpec : ChangeSpec := { name := "fnExactOpOK", fn := fun _ => fun
  | [d] => { results := [.lit (.bool true)], args := [d] }
  | _ => none }
def fnExactOpOKRow : OpenClaim := { program := "ytlihobpedkldpaa", sum := "dc159f34f41a50414d566b527a24daf83085e140048eef26637d8b300ec9ecd7", func := "loop.example/g00737/laws.FnExactOpOK", spec := "fnExactOpOK", unfollowed := true, recurses := true, apart := false }
def FnExactOpOKSaid : Prop := fnExactOpOKRow.holds Try.pinned (OpenSpec.ofChange fnExactOpOKSpec)

/-- ITS FALSE NEIGHBOUR: 'it returns false'. Refute it at one input. -/
def fnExactOpOKWrong : ChangeSpec := { name := "fnExactOpOK", fn := fun _ => fun
  | [d] => { results := [.lit (.bool false)], args := [d] }
  | _ => none }
def FnExactOpOKWrongFalsely : Prop := fnExactOpOKRow.holds Try.pinned (OpenSpec.ofChange fnExactOpOKWrong)

/-- 'laws.FnExactBaseOK': WHATEVER THE INPUT: true; the input reads as it did. -/
def fnExactBaseOKSpec : ChangeSpec := { name := "fnExactBaseOK", fn := fun _ => fun
  | [d] => { results := [.lit (.bool true)], args := [d] }
  | _ => none }
def fnExactBaseOKRow : OpenClaim := { program := "ytlihobpedkldpaa", sum := "dc159f34f41a50414d566b527a24daf83085e140048eef26637d8b300ec9ecd7", func := "loop.example/g00737/laws.FnExactBaseOK", spec := "fnExactBaseOK", unfollowed := true, recurses := true, apart := false }
def FnExactBaseOKSaid : Prop := fnExactBaseOKRow.holds Try.pinned (OpenSpec.ofChange fnExactBaseOKSpec)

/-- ITS FALSE NEIGHBOUR: 'it returns false'. Refute it at one input. -/
def fnExactBaseOKWrong : ChangeSpec := { name := "fnExactBaseOK", fn := fun _ => fun
  | [d] => { results := [.lit (.bool false)], args := [d] }
  | _ => none }
def FnExactBaseOKWrongFalsely : Prop := fnExactBaseOKRow.holds Try.pinned (OpenSpec.ofChange fnExactBaseOKWrong)

/-- 'laws.FnExactSameBase': WHATEVER THE INPUT: true; the input reads as it did. -/
def fnExactSameBaseSpec : ChangeSpec := { name := "fnExactSameBase", fn := fun _ => fun
  | [d1, d2] => { results := [.lit (.bool true)], args := [d1, d2] }
  | _ => none }
def fnExactSameBaseRow : OpenClaim := { program := "ytlihobpedkldpaa", sum := "dc159f34f41a50414d566b527a24daf83085e140048eef26637d8b300ec9ecd7", func := "loop.example/g00737/laws.FnExactSameBase", spec := "fnExactSameBase", unfollowed := true, recurses := true, apart := false }
def FnExactSameBaseSaid : Prop := fnExactSameBaseRow.holds Try.pinned (OpenSpec.ofChange fnExactSameBaseSpec)

/-- ITS FALSE NEIGHBOUR: 'it returns false'. Refute it at one input. -/
def fnExactSameBaseWrong : ChangeSpec := { name := "fnExactSameBase", fn := fun _ => fun
  | [d1, d2] => { results := [.lit (.bool false)], args := [d1, d2] }
  | _ => none }
def FnExactSameBaseWrongFalsely : Prop := fnExactSameBaseRow.holds Try.pinned (OpenSpec.ofChange fnExactSameBaseWrong)

/-- 'laws.FnExactSameResult': WHATEVER THE INPUT: true; the input reads as it did. -/
def fnExactSameResultSpec : ChangeSpec := { name := "fnExactSameResult", fn := fun _ => fun
  | [d1, d2] => { results := [.lit (.bool true)], args := [d1, d2] }
  | _ => none }
def fnExactSameResultRow : OpenClaim := { program := "ytlihobpedkldpaa", sum := "dc159f34f41a50414d566b527a24daf83085e140048eef26637d8b300ec9ecd7", func := "loop.example/g00737/laws.FnExactSameResult", spec := "fnExactSameResult", unfollowed := true, recurses := true, apart := false }
def FnExactSameResultSaid : Prop := fnExactSameResultRow.holds Try.pinned (OpenSpec.ofChange fnExactSameResultSpec)

/-- ITS FALSE NEIGHBOUR: 'it returns false'. Refute it at one input. -/
def fnExactSameResultWrong : ChangeSpec := { name := "fnExactSameResult", fn := fun _ => fun
  | [d1, d2] => { results := [.lit (.bool false)], args := [d1, d2] }
  | _ => none }
def FnExactSameResultWrongFalsely : Prop := fnExactSameResultRow.holds Try.pinned (OpenSpec.ofChange fnExactSameResultWrong)

/-- 'laws.FnExactNewBase': WHATEVER THE INPUT: true; the input reads as it did. -/
def fnExactNewBaseSpec : ChangeSpec := { name := "fnExactNewBase", fn := fun _ => fun
  | [d] => { results := [.lit (.bool true)], args := [d] }
  | _ => none }
def fnExactNewBaseRow : OpenClaim := { program := "ytlihobpedkldpaa", sum := "dc159f34f41a50414d566b527a24daf83085e140048eef26637d8b300ec9ecd7", func := "loop.example/g00737/laws.FnExactNewBase", spec := "fnExactNewBase", unfollowed := true, recurses := true, apart := false }
def FnExactNewBaseSaid : Prop := fnExactNewBaseRow.holds Try.pinned (OpenSpec.ofChange fnExactNewBaseSpec)

/-- ITS FALSE NEIGHBOUR: 'it returns false'. Refute it at one input. -/
def fnExactNewBaseWrong : ChangeSpec := { name := "fnExactNewBase", fn := fun _ => fun
  | [d] => { results := [.lit (.bool false)], args := [d] }
  | _ => none }
def FnExactNewBaseWrongFalsely : Prop := fnExactNewBaseRow.holds Try.pinned (OpenSpec.ofChange fnExactNewBaseWrong)

/-- 'laws.FnExactAddCommit': WHATEVER THE INPUT: true; the input reads as it did. -/
def fnExactAddCommitSpec : ChangeSpec := { name := "fnExactAddCommit", fn := fun _ => fun
  | [d1, d2] => { results := [.lit (.bool true)], args := [d1, d2] }
  | _ => none }
def fnExactAddCommitRow : OpenClaim := { program := "ytlihobpedkldpaa", sum := "dc159f34f41a50414d566b527a24daf83085e140048eef26637d8b300ec9ecd7", func := "loop.example/g00737/laws.FnExactAddCommit", spec := "fnExactAddCommit", unfollowed := true, recurses := true, apart := false }
def FnExactAddCommitSaid : Prop := fnExactAddCommitRow.holds Try.pinned (OpenSpec.ofChange fnExactAddCommitSpec)

/-- ITS FALSE NEIGHBOUR: 'it returns false'. Refute it at one input. -/
def fnExactAddCommitWrong : ChangeSpec := { name := "fnExactAddCommit", fn := fun _ => fun
  | [d1, d2] => { results := [.lit (.bool false)], args := [d1, d2] }
  | _ => none }
def FnExactAddCommitWrongFalsely : Prop := fnExactAddCommitRow.holds Try.pinned (OpenSpec.ofChange fnExactAddCommitWrong)

/-- 'laws.FnExactCreateRef': WHATEVER THE INPUT: true; the input reads as it did. -/
def fnExactCreateRefSpec : ChangeSpec := { name := "fnExactCreateRef", fn := fun _ => fun
  | [d1, d2, d3] => { results := [.lit (.bool true)], args := [d1, d2, d3] }
  | _ => none }
def fnExactCreateRefRow : OpenClaim := { program := "ytlihobpedkldpaa", sum := "dc159f34f41a50414d566b527a24daf83085e140048eef26637d8b300ec9ecd7", func := "loop.example/g00737/laws.FnExactCreateRef", spec := "fnExactCreateRef", inPlace := ["sync/atomic.StorePointer", "sync/atomic.LoadPointer", "sync/atomic.CompareAndSwapPointer"], unfollowed := true, recurses := true, apart := false }
def FnExactCreateRefSaid : Prop := fnExactCreateRefRow.holds Try.pinned (OpenSpec.ofChange fnExactCreateRefSpec)

/-- ITS FALSE NEIGHBOUR: 'it returns false'. Refute it at one input. -/
def fnExactCreateRefWrong : ChangeSpec := { name := "fnExactCreateRef", fn := fun _ => fun
  | [d1, d2, d3] => { results := [.lit (.bool false)], args := [d1, d2, d3] }
  | _ => none }
def FnExactCreateRefWrongFalsely : Prop := fnExactCreateRefRow.holds Try.pinned (OpenSpec.ofChange fnExactCreateRefWrong)

/-- 'laws.FnExactDeleteRef': WHATEVER THE INPUT: true; the input reads as it did. -/
def fnExactDeleteRefSpec : ChangeSpec := { name := "fnExactDeleteRef", fn := fun _ => fun
  | [d1, d2] => { results := [.lit (.bool true)], args := [d1, d2] }
  | _ => none }
def fnExactDeleteRefRow : OpenClaim := { program := "ytlihobpedkldpaa", sum := "dc159f34f41a50414d566b527a24daf83085e140048eef26637d8b300ec9ecd7", func := "loop.example/g00737/laws.FnExactDeleteRef", spec := "fnExactDeleteRef", inPlace := ["sync/atomic.StorePointer", "sync/atomic.LoadPointer", "sync/atomic.CompareAndSwapPointer"], unfollowed := true, recurses := true, apart := false }
def FnExactDeleteRefSaid : Prop := fnExactDeleteRefRow.holds Try.pinned (OpenSpec.ofChange fnExactDeleteRefSpec)

/-- ITS FALSE NEIGHBOUR: 'it returns false'. Refute it at one input. -/
def fnExactDeleteRefWrong : ChangeSpec := { name := "fnExactDeleteRef", fn := fun _ => fun
  | [d1, d2] => { results := [.lit (.bool false)], args := [d1, d2] }
  | _ => none }
def FnExactDeleteRefWrongFalsely : Prop := fnExactDeleteRefRow.holds Try.pinned (OpenSpec.ofChange fnExactDeleteRefWrong)

/-- 'laws.FnExactSwapRef': WHATEVER THE INPUT: true; the input reads as it did. -/
def fnExactSwapRefSpec : ChangeSpec := { name := "fnExactSwapRef", fn := fun _ => fun
  | [d1, d2, d3, d4] => { results := [.lit (.bool true)], args := [d1, d2, d3, d4] }
  | _ => none }
def fnExactSwapRefRow : OpenClaim := { program := "ytlihobpedkldpaa", sum := "dc159f34f41a50414d566b527a24daf83085e140048eef26637d8b300ec9ecd7", func := "loop.example/g00737/laws.FnExactSwapRef", spec := "fnExactSwapRef", inPlace := ["sync/atomic.StorePointer", "sync/atomic.LoadPointer", "sync/atomic.CompareAndSwapPointer"], unfollowed := true, recurses := true, apart := false }
def FnExactSwapRefSaid : Prop := fnExactSwapRefRow.holds Try.pinned (OpenSpec.ofChange fnExactSwapRefSpec)

/-- ITS FALSE NEIGHBOUR: 'it returns false'. Refute it at one input. -/
def fnExactSwapRefWrong : ChangeSpec := { name := "fnExactSwapRef", fn := fun _ => fun
  | [d1, d2, d3, d4] => { results := [.lit (.bool false)], args := [d1, d2, d3, d4] }
  | _ => none }
def FnExactSwapRefWrongFalsely : Prop := fnExactSwapRefRow.holds Try.pinned (OpenSpec.ofChange fnExactSwapRefWrong)

/- THE SECOND FORM. 'bulk': how many values and letters a reading holds, each counted each time it is reached (what is shared counts as often as it is met; a slice's spare places count too). A statement '..UptoSaid' is the law's where the arguments, and the package variables that the reading takes, are together of bulk at most 1048576: NARROWER than '..Said'. Prove '..Said' where nothing that the law and all that it calls make is longer than what came in: it says more and counts as full. Else prove '..UptoSaid'. A law counts once. -/
mutual
def uptoBulk {H : Type} : DataW H → Nat
  | .lit (.string bytes) => bytes.length + 1
  | .lit _ => 1
  | .nil => 1
  | .ptr d => uptoBulk d + 1
  | .slice elems spare => uptoBulkAll elems + uptoBulkAll spare + 1
  | .agg parts => uptoBulkAll parts + 1
  | .iface _ d => uptoBulk d + 1
  | .map entries => uptoBulkEntries entries + 1
  | .held _ => 1
def uptoBulkAll {H : Type} : List (DataW H) → Nat
  | [] => 0
  | d :: r => uptoBulk d + uptoBulkAll r
def uptoBulkEntries {H : Type} : List (Lit × DataW H) → Nat
  | [] => 0
  | x :: r => uptoBulkEntry x + uptoBulkEntries r
def uptoBulkEntry {H : Type} : Lit × DataW H → Nat
  | (.string bytes, d) => bytes.length + uptoBulk d + 1
  | (_, d) => uptoBulk d + 1
 end
def uptoSmall : (H : Type) → List (DataW H) → Bool := fun _ ds => decide (uptoBulkAll ds ≤ 1048576)
def OpenSpec.upto (s : _root_.Go.ChangeSpec) : _root_.Go.OpenSpec := { _root_.Go.OpenSpec.ofChange s with cond := some uptoSmall }

/-- 'laws.FnExactOpOK', WHERE WHAT IT READS IS OF BULK AT MOST 1048576: true; the input reads as it did. -/
def fnExactOpOKUptoRow : OpenClaim := { program := "ytlihobpedkldpaa", sum := "dc159f34f41a50414d566b527a24daf83085e140048eef26637d8b300ec9ecd7", func := "loop.example/g00737/laws.FnExactOpOK", spec := "fnExactOpOK", unfollowed := true, recurses := true, apart := false, narrowed := true }
def FnExactOpOKUptoSaid : Prop := fnExactOpOKUptoRow.holds Try.pinned (OpenSpec.upto fnExactOpOKSpec)

/-- 'laws.FnExactBaseOK', WHERE WHAT IT READS IS OF BULK AT MOST 1048576: true; the input reads as it did. -/
def fnExactBaseOKUptoRow : OpenClaim := { program := "ytlihobpedkldpaa", sum := "dc159f34f41a50414d566b527a24daf83085e140048eef26637d8b300ec9ecd7", func := "loop.example/g00737/laws.FnExactBaseOK", spec := "fnExactBaseOK", unfollowed := true, recurses := true, apart := false, narrowed := true }
def FnExactBaseOKUptoSaid : Prop := fnExactBaseOKUptoRow.holds Try.pinned (OpenSpec.upto fnExactBaseOKSpec)

/-- 'laws.FnExactSameBase', WHERE WHAT IT READS IS OF BULK AT MOST 1048576: true; the input reads as it did. -/
def fnExactSameBaseUptoRow : OpenClaim := { program := "ytlihobpedkldpaa", sum := "dc159f34f41a50414d566b527a24daf83085e140048eef26637d8b300ec9ecd7", func := "loop.example/g00737/laws.FnExactSameBase", spec := "fnExactSameBase", unfollowed := true, recurses := true, apart := false, narrowed := true }
def FnExactSameBaseUptoSaid : Prop := fnExactSameBaseUptoRow.holds Try.pinned (OpenSpec.upto fnExactSameBaseSpec)

/-- 'laws.FnExactSameResult', WHERE WHAT IT READS IS OF BULK AT MOST 1048576: true; the input reads as it did. -/
def fnExactSameResultUptoRow : OpenClaim := { program := "ytlihobpedkldpaa", sum := "dc159f34f41a50414d566b527a24daf83085e140048eef26637d8b300ec9ecd7", func := "loop.example/g00737/laws.FnExactSameResult", spec := "fnExactSameResult", unfollowed := true, recurses := true, apart := false, narrowed := true }
def FnExactSameResultUptoSaid : Prop := fnExactSameResultUptoRow.holds Try.pinned (OpenSpec.upto fnExactSameResultSpec)

/-- 'laws.FnExactNewBase', WHERE WHAT IT READS IS OF BULK AT MOST 1048576: true; the input reads as it did. -/
def fnExactNewBaseUptoRow : OpenClaim := { program := "ytlihobpedkldpaa", sum := "dc159f34f41a50414d566b527a24daf83085e140048eef26637d8b300ec9ecd7", func := "loop.example/g00737/laws.FnExactNewBase", spec := "fnExactNewBase", unfollowed := true, recurses := true, apart := false, narrowed := true }
def FnExactNewBaseUptoSaid : Prop := fnExactNewBaseUptoRow.holds Try.pinned (OpenSpec.upto fnExactNewBaseSpec)

/-- 'laws.FnExactAddCommit', WHERE WHAT IT READS IS OF BULK AT MOST 1048576: true; the input reads as it did. -/
def fnExactAddCommitUptoRow : OpenClaim := { program := "ytlihobpedkldpaa", sum := "dc159f34f41a50414d566b527a24daf83085e140048eef26637d8b300ec9ecd7", func := "loop.example/g00737/laws.FnExactAddCommit", spec := "fnExactAddCommit", unfollowed := true, recurses := true, apart := false, narrowed := true }
def FnExactAddCommitUptoSaid : Prop := fnExactAddCommitUptoRow.holds Try.pinned (OpenSpec.upto fnExactAddCommitSpec)

/-- 'laws.FnExactCreateRef', WHERE WHAT IT READS IS OF BULK AT MOST 1048576: true; the input reads as it did. -/
def fnExactCreateRefUptoRow : OpenClaim := { program := "ytlihobpedkldpaa", sum := "dc159f34f41a50414d566b527a24daf83085e140048eef26637d8b300ec9ecd7", func := "loop.example/g00737/laws.FnExactCreateRef", spec := "fnExactCreateRef", inPlace := ["sync/atomic.StorePointer", "sync/atomic.LoadPointer", "sync/atomic.CompareAndSwapPointer"], unfollowed := true, recurses := true, apart := false, narrowed := true }
def FnExactCreateRefUptoSaid : Prop := fnExactCreateRefUptoRow.holds Try.pinned (OpenSpec.upto fnExactCreateRefSpec)

/-- 'laws.FnExactDeleteRef', WHERE WHAT IT READS IS OF BULK AT MOST 1048576: true; the input reads as it did. -/
def fnExactDeleteRefUptoRow : OpenClaim := { program := "ytlihobpedkldpaa", sum := "dc159f34f41a50414d566b527a24daf83085e140048eef26637d8b300ec9ecd7", func := "loop.example/g00737/laws.FnExactDeleteRef", spec := "fnExactDeleteRef", inPlace := ["sync/atomic.StorePointer", "sync/atomic.LoadPointer", "sync/atomic.CompareAndSwapPointer"], unfollowed := true, recurses := true, apart := false, narrowed := true }
def FnExactDeleteRefUptoSaid : Prop := fnExactDeleteRefUptoRow.holds Try.pinned (OpenSpec.upto fnExactDeleteRefSpec)

/-- 'laws.FnExactSwapRef', WHERE WHAT IT READS IS OF BULK AT MOST 1048576: true; the input reads as it did. -/
def fnExactSwapRefUptoRow : OpenClaim := { program := "ytlihobpedkldpaa", sum := "dc159f34f41a50414d566b527a24daf83085e140048eef26637d8b300ec9ecd7", func := "loop.example/g00737/laws.FnExactSwapRef", spec := "fnExactSwapRef", inPlace := ["sync/atomic.StorePointer", "sync/atomic.LoadPointer", "sync/atomic.CompareAndSwapPointer"], unfollowed := true, recurses := true, apart := false, narrowed := true }
def FnExactSwapRefUptoSaid : Prop := fnExactSwapRefUptoRow.holds Try.pinned (OpenSpec.upto fnExactSwapRefSpec)

end Rows
end Go.Proofs.Ytlihobpedkldpaa
