/- The program's way through two maps side by side. -/
import Derived.Test.YtlihobpedkldpaaS7
namespace Go.Proofs.Ytlihobpedkldpaa
open Go.RowKit

end Go.Proofs.Ytlihobpedkldpaa
