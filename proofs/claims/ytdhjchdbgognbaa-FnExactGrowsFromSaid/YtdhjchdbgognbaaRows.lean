/-
  No cell of these rows narrows 'for every input' (looked for: loops, veiled, ifaces, maps, wideKeys, modest, calm, conditions, laid).
  DERIVED. THE GIVEN ROWS OF THIS SEAT. 6 by the template 'for every input the law returns true; each argument reads behind the call as it read before'; 0 by the template 'total and deterministic' (their statements: YtdhjchdbgognbaaTotals.lean).
  GIVEN WITH THE SEED: the statements are not yours to turn. If you find one false, say at which input.
  Laid BY PROGRAM, IN A SANDBOX (cutbox-rows.mjs): the forced cells as the released guide's own fill.sh prints them over the translation 92230e301b0063c9… (all of the seat's roots in one cut). By AI agents, Wed Nov 11 2026. No macro, syntax, notation, axiom, sorry.
-/
import Derived.Test.YtdhjchdbgognbaaChecked
import GoSem.Claim
import GoSem.ClaimJoined
import GoSem.ClaimMapViews
import Derived.JoinedTies
import Derived.KernelRfl
namespace Go.Proofs.Ytdhjchdbgognbaa
/- THE CELL 'sum', in the pinned program and in every row, IS THE sha256 OF THE DUMP (.gsa) THAT YtdhjchdbgognbaaProg.lean LOADS. Nothing in Lean hashes anything: it is a label: what it is worth is what the hold of that sum in a sandbox is worth. -/
noncomputable def Try.pinned : Pinned := { name := "ytdhjchdbgognbaa", sum := "92230e301b0063c985985dfb1a5bde263bbe05c66dab89df614930458762c304", checked := Try.checked }
namespace Rows
def none {H : Type} : Left H := { results := [], args := [] }

/-- 'laws.FnExactOpenSnap': WHATEVER THE INPUT: true; the input reads as it did. -/
def fnExactOpenSnapSpec : ChangeSpec := { name := "fnExactOpenSnap", fn := fun _ => fun
  | [d1, d2] => { results := [.lit (.bool true)], args := [d1, d2] }
  | _ => none }
def fnExactOpenSnapRow : OpenClaim := { program := "ytdhjchdbgognbaa", sum := "92230e301b0063c985985dfb1a5bde263bbe05c66dab89df614930458762c304", func := "loop.example/g00737/laws.FnExactOpenSnap", spec := "fnExactOpenSnap", unfollowed := true, recurses := true, apart := false }
def FnExactOpenSnapSaid : Prop := fnExactOpenSnapRow.holds Try.pinned (OpenSpec.ofChange fnExactOpenSnapSpec)

/-- ITS FALSE NEIGHBOUR: 'it returns false'. Refute it at one input. -/
def fnExactOpenSnapWrong : ChangeSpec := { name := "fnExactOpenSnap", fn := fun _ => fun
  | [d1, d2] => { results := [.lit (.bool false)], args := [d1, d2] }
  | _ => none }
def FnExactOpenSnapWrongFalsely : Prop := fnExactOpenSnapRow.holds Try.pinned (OpenSpec.ofChange fnExactOpenSnapWrong)

/-- 'laws.FnExactSnapOK': WHATEVER THE INPUT: true; the input reads as it did. -/
def fnExactSnapOKSpec : ChangeSpec := { name := "fnExactSnapOK", fn := fun _ => fun
  | [d1, d2] => { results := [.lit (.bool true)], args := [d1, d2] }
  | _ => none }
def fnExactSnapOKRow : OpenClaim := { program := "ytdhjchdbgognbaa", sum := "92230e301b0063c985985dfb1a5bde263bbe05c66dab89df614930458762c304", func := "loop.example/g00737/laws.FnExactSnapOK", spec := "fnExactSnapOK", unfollowed := true, recurses := true, apart := false }
def FnExactSnapOKSaid : Prop := fnExactSnapOKRow.holds Try.pinned (OpenSpec.ofChange fnExactSnapOKSpec)

/-- ITS FALSE NEIGHBOUR: 'it returns false'. Refute it at one input. -/
def fnExactSnapOKWrong : ChangeSpec := { name := "fnExactSnapOK", fn := fun _ => fun
  | [d1, d2] => { results := [.lit (.bool false)], args := [d1, d2] }
  | _ => none }
def FnExactSnapOKWrongFalsely : Prop := fnExactSnapOKRow.holds Try.pinned (OpenSpec.ofChange fnExactSnapOKWrong)

/-- 'laws.FnExactReadSnap': WHATEVER THE INPUT: true; the input reads as it did. -/
def fnExactReadSnapSpec : ChangeSpec := { name := "fnExactReadSnap", fn := fun _ => fun
  | [d1, d2, d3] => { results := [.lit (.bool true)], args := [d1, d2, d3] }
  | _ => none }
def fnExactReadSnapRow : OpenClaim := { program := "ytdhjchdbgognbaa", sum := "92230e301b0063c985985dfb1a5bde263bbe05c66dab89df614930458762c304", func := "loop.example/g00737/laws.FnExactReadSnap", spec := "fnExactReadSnap", unfollowed := true, recurses := true, apart := false }
def FnExactReadSnapSaid : Prop := fnExactReadSnapRow.holds Try.pinned (OpenSpec.ofChange fnExactReadSnapSpec)

/-- ITS FALSE NEIGHBOUR: 'it returns false'. Refute it at one input. -/
def fnExactReadSnapWrong : ChangeSpec := { name := "fnExactReadSnap", fn := fun _ => fun
  | [d1, d2, d3] => { results := [.lit (.bool false)], args := [d1, d2, d3] }
  | _ => none }
def FnExactReadSnapWrongFalsely : Prop := fnExactReadSnapRow.holds Try.pinned (OpenSpec.ofChange fnExactReadSnapWrong)

/-- 'laws.FnExactScanSnap': WHATEVER THE INPUT: true; the input reads as it did. -/
def fnExactScanSnapSpec : ChangeSpec := { name := "fnExactScanSnap", fn := fun _ => fun
  | [d1, d2, d3, d4] => { results := [.lit (.bool true)], args := [d1, d2, d3, d4] }
  | _ => none }
def fnExactScanSnapRow : OpenClaim := { program := "ytdhjchdbgognbaa", sum := "92230e301b0063c985985dfb1a5bde263bbe05c66dab89df614930458762c304", func := "loop.example/g00737/laws.FnExactScanSnap", spec := "fnExactScanSnap", unfollowed := true, recurses := true, apart := false }
def FnExactScanSnapSaid : Prop := fnExactScanSnapRow.holds Try.pinned (OpenSpec.ofChange fnExactScanSnapSpec)

/-- ITS FALSE NEIGHBOUR: 'it returns false'. Refute it at one input. -/
def fnExactScanSnapWrong : ChangeSpec := { name := "fnExactScanSnap", fn := fun _ => fun
  | [d1, d2, d3, d4] => { results := [.lit (.bool false)], args := [d1, d2, d3, d4] }
  | _ => none }
def FnExactScanSnapWrongFalsely : Prop := fnExactScanSnapRow.holds Try.pinned (OpenSpec.ofChange fnExactScanSnapWrong)

/-- 'laws.FnExactDiffSnaps': WHATEVER THE INPUT: true; the input reads as it did. -/
def fnExactDiffSnapsSpec : ChangeSpec := { name := "fnExactDiffSnaps", fn := fun _ => fun
  | [d1, d2, d3] => { results := [.lit (.bool true)], args := [d1, d2, d3] }
  | _ => none }
def fnExactDiffSnapsRow : OpenClaim := { program := "ytdhjchdbgognbaa", sum := "92230e301b0063c985985dfb1a5bde263bbe05c66dab89df614930458762c304", func := "loop.example/g00737/laws.FnExactDiffSnaps", spec := "fnExactDiffSnaps", unfollowed := true, recurses := true, apart := false }
def FnExactDiffSnapsSaid : Prop := fnExactDiffSnapsRow.holds Try.pinned (OpenSpec.ofChange fnExactDiffSnapsSpec)

/-- ITS FALSE NEIGHBOUR: 'it returns false'. Refute it at one input. -/
def fnExactDiffSnapsWrong : ChangeSpec := { name := "fnExactDiffSnaps", fn := fun _ => fun
  | [d1, d2, d3] => { results := [.lit (.bool false)], args := [d1, d2, d3] }
  | _ => none }
def FnExactDiffSnapsWrongFalsely : Prop := fnExactDiffSnapsRow.holds Try.pinned (OpenSpec.ofChange fnExactDiffSnapsWrong)

/-- 'laws.FnExactGrowsFrom': WHATEVER THE INPUT: true; the input reads as it did. -/
def fnExactGrowsFromSpec : ChangeSpec := { name := "fnExactGrowsFrom", fn := fun _ => fun
  | [d1, d2] => { results := [.lit (.bool true)], args := [d1, d2] }
  | _ => none }
def fnExactGrowsFromRow : OpenClaim := { program := "ytdhjchdbgognbaa", sum := "92230e301b0063c985985dfb1a5bde263bbe05c66dab89df614930458762c304", func := "loop.example/g00737/laws.FnExactGrowsFrom", spec := "fnExactGrowsFrom", unfollowed := true, recurses := true, apart := false }
def FnExactGrowsFromSaid : Prop := fnExactGrowsFromRow.holds Try.pinned (OpenSpec.ofChange fnExactGrowsFromSpec)

/-- ITS FALSE NEIGHBOUR: 'it returns false'. Refute it at one input. -/
def fnExactGrowsFromWrong : ChangeSpec := { name := "fnExactGrowsFrom", fn := fun _ => fun
  | [d1, d2] => { results := [.lit (.bool false)], args := [d1, d2] }
  | _ => none }
def FnExactGrowsFromWrongFalsely : Prop := fnExactGrowsFromRow.holds Try.pinned (OpenSpec.ofChange fnExactGrowsFromWrong)

/- THE SECOND FORM. 'bulk': how many values and letters a reading holds, each counted each time it is reached (what is shared counts as often as it is met; a slice's spare places count too). A statement '..UptoSaid' is the law's where the arguments, and the package variables that the reading takes, are together of bulk at most 1048576: NARROWER than '..Said'. Prove '..Said' where nothing that the law and all that it calls make is longer than what came in: it says more and counts as full. Else prove '..UptoSaid'. A law counts once. -/
mutual
def uptoBulk {H : Type} : DataW H → Nat
  | .lit (.string bytes) => bytes.length + 1
  | .lit _ => 1
  | .nil => 1
  | .ptr d => uptoBulk d + 1
  | .slice elems spare => uptoBulkAll elems + uptoBulkAll spare + 1
  | .agg parts => uptoBulkAll parts + 1
  | .iface _ d => uptoBulk d + 1
  | .map entries => uptoBulkEntries entries + 1
  | .held _ => 1
def uptoBulkAll {H : Type} : List (DataW H) → Nat
  | [] => 0
  | d :: r => uptoBulk d + uptoBulkAll r
def uptoBulkEntries {H : Type} : List (Lit × DataW H) → Nat
  | [] => 0
  | x :: r => uptoBulkEntry x + uptoBulkEntries r
def uptoBulkEntry {H : Type} : Lit × DataW H → Nat
  | (.string bytes, d) => bytes.length + uptoBulk d + 1
  | (_, d) => uptoBulk d + 1
 end
def uptoSmall : (H : Type) → List (DataW H) → Bool := fun _ ds => decide (uptoBulkAll ds ≤ 1048576)
def OpenSpec.upto (s : _root_.Go.ChangeSpec) : _root_.Go.OpenSpec := { _root_.Go.OpenSpec.ofChange s with cond := some uptoSmall }

/-- 'laws.FnExactOpenSnap', WHERE WHAT IT READS IS OF BULK AT MOST 1048576: true; the input reads as it did. -/
def fnExactOpenSnapUptoRow : OpenClaim := { program := "ytdhjchdbgognbaa", sum := "92230e301b0063c985985dfb1a5bde263bbe05c66dab89df614930458762c304", func := "loop.example/g00737/laws.FnExactOpenSnap", spec := "fnExactOpenSnap", unfollowed := true, recurses := true, apart := false, narrowed := true }
def FnExactOpenSnapUptoSaid : Prop := fnExactOpenSnapUptoRow.holds Try.pinned (OpenSpec.upto fnExactOpenSnapSpec)

/-- 'laws.FnExactSnapOK', WHERE WHAT IT READS IS OF BULK AT MOST 1048576: true; the input reads as it did. -/
def fnExactSnapOKUptoRow : OpenClaim := { program := "ytdhjchdbgognbaa", sum := "92230e301b0063c985985dfb1a5bde263bbe05c66dab89df614930458762c304", func := "loop.example/g00737/laws.FnExactSnapOK", spec := "fnExactSnapOK", unfollowed := true, recurses := true, apart := false, narrowed := true }
def FnExactSnapOKUptoSaid : Prop := fnExactSnapOKUptoRow.holds Try.pinned (OpenSpec.upto fnExactSnapOKSpec)

/-- 'laws.FnExactReadSnap', WHERE WHAT IT READS IS OF BULK AT MOST 1048576: true; the input reads as it did. -/
def fnExactReadSnapUptoRow : OpenClaim := { program := "ytdhjchdbgognbaa", sum := "92230e301b0063c985985dfb1a5bde263bbe05c66dab89df614930458762c304", func := "loop.example/g00737/laws.FnExactReadSnap", spec := "fnExactReadSnap", unfollowed := true, recurses := true, apart := false, narrowed := true }
def FnExactReadSnapUptoSaid : Prop := fnExactReadSnapUptoRow.holds Try.pinned (OpenSpec.upto fnExactReadSnapSpec)

/-- 'laws.FnExactScanSnap', WHERE WHAT IT READS IS OF BULK AT MOST 1048576: true; the input reads as it did. -/
def fnExactScanSnapUptoRow : OpenClaim := { program := "ytdhjchdbgognbaa", sum := "92230e301b0063c985985dfb1a5bde263bbe05c66dab89df614930458762c304", func := "loop.example/g00737/laws.FnExactScanSnap", spec := "fnExactScanSnap", unfollowed := true, recurses := true, apart := false, narrowed := true }
def FnExactScanSnapUptoSaid : Prop := fnExactScanSnapUptoRow.holds Try.pinned (OpenSpec.upto fnExactScanSnapSpec)

/-- 'laws.FnExactDiffSnaps', WHERE WHAT IT READS IS OF BULK AT MOST 1048576: true; the input reads as it did. -/
def fnExactDiffSnapsUptoRow : OpenClaim := { program := "ytdhjchdbgognbaa", sum := "92230e301b0063c985985dfb1a5bde263bbe05c66dab89df614930458762c304", func := "loop.example/g00737/laws.FnExactDiffSnaps", spec := "fnExactDiffSnaps", unfollowed := true, recurses := true, apart := false, narrowed := true }
def FnExactDiffSnapsUptoSaid : Prop := fnExactDiffSnapsUptoRow.holds Try.pinned (OpenSpec.upto fnExactDiffSnapsSpec)

/-- 'laws.FnExactGrowsFrom', WHERE WHAT IT READS IS OF BULK AT MOST 1048576: true; the input reads as it did. -/
def fnExactGrowsFromUptoRow : OpenClaim := { program := "ytdhjchdbgognbaa", sum := "92230e301b0063c985985dfb1a5bde263bbe05c66dab89df614930458762c304", func := "loop.example/g00737/laws.FnExactGrowsFrom", spec := "fnExactGrowsFrom", unfollowed := true, recurses := true, apart := false, narrowed := true }
def FnExactGrowsFromUptoSaid : Prop := fnExactGrowsFromUptoRow.holds Try.pinned (OpenSpec.upto fnExactGrowsFromSpec)

end Rows
end Go.Proofs.Ytdhjchdbgognbaa
