/- The machine over data (I2, I3, I4). -/
import Derived.Test.YtfkheobbfefonaaS3
/- The program's part, with, without, Put, Remove, Scan. -/
namespace Go.Proofs.Ytfkheobbfefonaa
open Go.RowKit

end Go.Proofs.Ytfkheobbfefonaa
/- The program's with: an entry put in at its place, into new memory. -/
namespace Go.Proofs.Ytfkheobbfefonaa
open Go.RowKit

theorem Blk.two {w : World} {g : Nat} {t : TypeId} {cs : Array Value} (h : Blk w g t cs) {k : Nat} (hk : k * 2 + 1 < cs.size) :
    ∃ y0 y1, w.cell? ⟨g, k * 2, none⟩ = some y0 ∧ w.cell? ⟨g, k * 2 + 1, none⟩ = some y1 ∧ w.frozen? ⟨g, k * 2, none⟩ = false ∧ w.frozen? ⟨g, k * 2 + 1, none⟩ = false :=
  ⟨_, _, (h.cell _).trans (Array.getElem?_eq_getElem (by omega)), (h.cell _).trans (Array.getElem?_eq_getElem hk), h.frozen _, h.frozen _⟩
end Go.Proofs.Ytfkheobbfefonaa
/- The program's without: an entry taken out, into new memory. -/
namespace Go.Proofs.Ytfkheobbfefonaa
open Go.RowKit

end Go.Proofs.Ytfkheobbfefonaa
