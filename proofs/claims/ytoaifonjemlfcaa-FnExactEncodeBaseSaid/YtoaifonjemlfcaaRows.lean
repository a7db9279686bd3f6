/-
  No cell of these rows narrows 'for every input' (looked for: loops, veiled, ifaces, maps, wideKeys, modest, calm, conditions, laid).
  DERIVED. THE GIVEN ROWS OF THIS SEAT. 4 by the template 'for every input the law returns true; each argument reads behind the call as it read before'; 0 by the template 'total and deterministic' (their statements: YtoaifonjemlfcaaTotals.lean).
  GIVEN WITH THE SEED: the statements are not yours to turn. If you find one false, say at which input.
  Laid BY PROGRAM, IN A SANDBOX (cutbox-rows.mjs): the forced cells as the released guide's own fill.sh prints them over the translation 66c73b94384d2b80… (all of the seat's roots in one cut). By AI agents, Wed Nov 11 2026. No macro, syntax, notation, axiom, sorry.
-/
import Derived.Test.YtoaifonjemlfcaaChecked
import GoSem.Claim
import GoSem.ClaimJoined
import GoSem.ClaimMapViews
import Derived.JoinedTies
import Derived.KernelRfl
namespace Go.Proofs.Ytoaifonjemlfcaa
/- THE CELL 'sum', in the pinned program and in every row, IS THE sha256 OF THE DUMP (.gsa) THAT YtoaifonjemlfcaaProg.lean LOADS. Nothing in Lean hashes anything: it is a label: what it is worth is what the hold of that sum in a sandbox is worth. -/
noncomputable def Try.pinned : Pinned := { name := "ytoaifonjemlfcaa", sum := "66c73b94384d2b8023567761108e414fd9988ba3e89c20c8487eb48fabb01538", checked := Try.checked }
namespace Rows
def none {H : Type} : Left H := { results := [], args := [] }

/-- 'laws.FnExactPutNumber': WHATEVER THE INPUT: true; the input reads as it did. -/
def fnExactPutNumberSpec : ChangeSpec := { name := "fnExactPutNumber", fn := fun _ => fun
  | [d] => { results := [.lit (.bool true)], args := [d] }
  | _ => none }
def fnExactPutNumberRow : OpenClaim := { program := "ytoaifonjemlfcaa", sum := "66c73b94384d2b8023567761108e414fd9988ba3e89c20c8487eb48fabb01538", func := "loop.example/g00737/laws.FnExactPutNumber", spec := "fnExactPutNumber", inPlace := ["internal/abi.NoEscape"], apart := false }
def FnExactPutNumberSaid : Prop := fnExactPutNumberRow.holds Try.pinned (OpenSpec.ofChange fnExactPutNumberSpec)

/-- ITS FALSE NEIGHBOUR: 'it returns false'. Refute it at one input. -/
def fnExactPutNumberWrong : ChangeSpec := { name := "fnExactPutNumber", fn := fun _ => fun
  | [d] => { results := [.lit (.bool false)], args := [d] }
  | _ => none }
def FnExactPutNumberWrongFalsely : Prop := fnExactPutNumberRow.holds Try.pinned (OpenSpec.ofChange fnExactPutNumberWrong)

/-- 'laws.FnExactEncodeCommit': WHATEVER THE INPUT: true; the input reads as it did. -/
def fnExactEncodeCommitSpec : ChangeSpec := { name := "fnExactEncodeCommit", fn := fun _ => fun
  | [d] => { results := [.lit (.bool true)], args := [d] }
  | _ => none }
def fnExactEncodeCommitRow : OpenClaim := { program := "ytoaifonjemlfcaa", sum := "66c73b94384d2b8023567761108e414fd9988ba3e89c20c8487eb48fabb01538", func := "loop.example/g00737/laws.FnExactEncodeCommit", spec := "fnExactEncodeCommit", inPlace := ["internal/abi.NoEscape"], unfollowed := true, recurses := true, apart := false }
def FnExactEncodeCommitSaid : Prop := fnExactEncodeCommitRow.holds Try.pinned (OpenSpec.ofChange fnExactEncodeCommitSpec)

/-- ITS FALSE NEIGHBOUR: 'it returns false'. Refute it at one input. -/
def fnExactEncodeCommitWrong : ChangeSpec := { name := "fnExactEncodeCommit", fn := fun _ => fun
  | [d] => { results := [.lit (.bool false)], args := [d] }
  | _ => none }
def FnExactEncodeCommitWrongFalsely : Prop := fnExactEncodeCommitRow.holds Try.pinned (OpenSpec.ofChange fnExactEncodeCommitWrong)

/-- 'laws.FnExactEncodeBase': WHATEVER THE INPUT: true; the input reads as it did. -/
def fnExactEncodeBaseSpec : ChangeSpec := { name := "fnExactEncodeBase", fn := fun _ => fun
  | [d] => { results := [.lit (.bool true)], args := [d] }
  | _ => none }
def fnExactEncodeBaseRow : OpenClaim := { program := "ytoaifonjemlfcaa", sum := "66c73b94384d2b8023567761108e414fd9988ba3e89c20c8487eb48fabb01538", func := "loop.example/g00737/laws.FnExactEncodeBase", spec := "fnExactEncodeBase", inPlace := ["internal/abi.NoEscape"], unfollowed := true, recurses := true, apart := false }
def FnExactEncodeBaseSaid : Prop := fnExactEncodeBaseRow.holds Try.pinned (OpenSpec.ofChange fnExactEncodeBaseSpec)

/-- ITS FALSE NEIGHBOUR: 'it returns false'. Refute it at one input. -/
def fnExactEncodeBaseWrong : ChangeSpec := { name := "fnExactEncodeBase", fn := fun _ => fun
  | [d] => { results := [.lit (.bool false)], args := [d] }
  | _ => none }
def FnExactEncodeBaseWrongFalsely : Prop := fnExactEncodeBaseRow.holds Try.pinned (OpenSpec.ofChange fnExactEncodeBaseWrong)

/-- 'laws.FnExactSumOf': WHATEVER THE INPUT: true; the input reads as it did. -/
def fnExactSumOfSpec : ChangeSpec := { name := "fnExactSumOf", fn := fun _ => fun
  | [d] => { results := [.lit (.bool true)], args := [d] }
  | _ => none }
def fnExactSumOfRow : OpenClaim := { program := "ytoaifonjemlfcaa", sum := "66c73b94384d2b8023567761108e414fd9988ba3e89c20c8487eb48fabb01538", func := "loop.example/g00737/laws.FnExactSumOf", spec := "fnExactSumOf", apart := false }
def FnExactSumOfSaid : Prop := fnExactSumOfRow.holds Try.pinned (OpenSpec.ofChange fnExactSumOfSpec)

/-- ITS FALSE NEIGHBOUR: 'it returns false'. Refute it at one input. -/
def fnExactSumOfWrong : ChangeSpec := { name := "fnExactSumOf", fn := fun _ => fun
  | [d] => { results := [.lit (.bool false)], args := [d] }
  | _ => none }
def FnExactSumOfWrongFalsely : Prop := fnExactSumOfRow.holds Try.pinned (OpenSpec.ofChange fnExactSumOfWrong)

/- THE SECOND FORM. 'bulk': how many values and letters a reading holds, each counted each time it is reached (what is shared counts as often as it is met; a slice's spare places count too). A statement '..UptoSaid' is the law's where the arguments, and the package variables that the reading takes, are together of bulk at most 1048576: NARROWER than '..Said'. Prove '..Said' where nothing that the law and all that it calls make is longer than what came in: it says more and counts as full. Else prove '..UptoSaid'. A law counts once. -/
mutual
def uptoBulk {H : Type} : DataW H → Nat
  | .lit (.string bytes) => bytes.length + 1
  | .lit _ => 1
  | .nil => 1
  | .ptr d => uptoBulk d + 1
  | .slice elems spare => uptoBulkAll elems + uptoBulkAll spare + 1
  | .agg parts => uptoBulkAll parts + 1
  | .iface _ d => uptoBulk d + 1
  | .map entries => uptoBulkEntries entries + 1
  | .held _ => 1
def uptoBulkAll {H : Type} : List (DataW H) → Nat
  | [] => 0
  | d :: r => uptoBulk d + uptoBulkAll r
def uptoBulkEntries {H : Type} : List (Lit × DataW H) → Nat
  | [] => 0
  | x :: r => uptoBulkEntry x + uptoBulkEntries r
def uptoBulkEntry {H : Type} : Lit × DataW H → Nat
  | (.string bytes, d) => bytes.length + uptoBulk d + 1
  | (_, d) => uptoBulk d + 1
 end
def uptoSmall : (H : Type) → List (DataW H) → Bool := fun _ ds => decide (uptoBulkAll ds ≤ 1048576)
def OpenSpec.upto (s : _root_.Go.ChangeSpec) : _root_.Go.OpenSpec := { _root_.Go.OpenSpec.ofChange s with cond := some uptoSmall }

/-- 'laws.FnExactPutNumber', WHERE WHAT IT READS IS OF BULK AT MOST 1048576: true; the input reads as it did. -/
def fnExactPutNumberUptoRow : OpenClaim := { program := "ytoaifonjemlfcaa", sum := "66c73b94384d2b8023567761108e414fd9988ba3e89c20c8487eb48fabb01538", func := "loop.example/g00737/laws.FnExactPutNumber", spec := "fnExactPutNumber", inPlace := ["internal/abi.NoEscape"], apart := false, narrowed := true }
def FnExactPutNumberUptoSaid : Prop := fnExactPutNumberUptoRow.holds Try.pinned (OpenSpec.upto fnExactPutNumberSpec)

/-- 'laws.FnExactEncodeCommit', WHERE WHAT IT READS IS OF BULK AT MOST 1048576: true; the input reads as it did. -/
def fnExactEncodeCommitUptoRow : OpenClaim := { program := "ytoaifonjemlfcaa", sum := "66c73b94384d2b8023567761108e414fd9988ba3e89c20c8487eb48fabb01538", func := "loop.example/g00737/laws.FnExactEncodeCommit", spec := "fnExactEncodeCommit", inPlace := ["internal/abi.NoEscape"], unfollowed := true, recurses := true, apart := false, narrowed := true }
def FnExactEncodeCommitUptoSaid : Prop := fnExactEncodeCommitUptoRow.holds Try.pinned (OpenSpec.upto fnExactEncodeCommitSpec)

/-- 'laws.FnExactEncodeBase', WHERE WHAT IT READS IS OF BULK AT MOST 1048576: true; the input reads as it did. -/
def fnExactEncodeBaseUptoRow : OpenClaim := { program := "ytoaifonjemlfcaa", sum := "66c73b94384d2b8023567761108e414fd9988ba3e89c20c8487eb48fabb01538", func := "loop.example/g00737/laws.FnExactEncodeBase", spec := "fnExactEncodeBase", inPlace := ["internal/abi.NoEscape"], unfollowed := true, recurses := true, apart := false, narrowed := true }
def FnExactEncodeBaseUptoSaid : Prop := fnExactEncodeBaseUptoRow.holds Try.pinned (OpenSpec.upto fnExactEncodeBaseSpec)

/-- 'laws.FnExactSumOf', WHERE WHAT IT READS IS OF BULK AT MOST 1048576: true; the input reads as it did. -/
def fnExactSumOfUptoRow : OpenClaim := { program := "ytoaifonjemlfcaa", sum := "66c73b94384d2b8023567761108e414fd9988ba3e89c20c8487eb48fabb01538", func := "loop.example/g00737/laws.FnExactSumOf", spec := "fnExactSumOf", apart := false, narrowed := true }
def FnExactSumOfUptoSaid : Prop := fnExactSumOfUptoRow.holds Try.pinned (OpenSpec.upto fnExactSumOfSpec)

end Rows
end Go.Proofs.Ytoaifonjemlfcaa
