/- The law's helpers that mark: markText; a row of entries is marked and held against its marks. -/
import Derived.Test.YtjhimcddgkoghaaLawE2
namespace Go.Proofs.Ytjhimcddgkoghaa
open Go.RowKit

def digs : Nat → Int → ByteArray → ByteArray
  | 0, _, t => t
  | f + 1, j, t => if 0 < j then digs f (j / 10) (strOfNums [48 + j % 10] ++ t) else t
def markB (k : Int) : ByteArray := if 0 < k then ⟨#[109]⟩ ++ digs k.toNat k ⟨#[]⟩ else ⟨#[109, 48]⟩
/-- what a row of entries holds behind its marking, from mark k on -/
def marked : Nat → Int → List Ent
  | 0, _ => []
  | n + 1, k => (markB k, k + 1) :: marked n (k + 2)
end Go.Proofs.Ytjhimcddgkoghaa
