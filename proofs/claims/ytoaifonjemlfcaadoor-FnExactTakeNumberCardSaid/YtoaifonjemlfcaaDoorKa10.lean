/- Texts of the machine over data, folded. -/
import Derived.Test.YtoaifonjemlfcaaDoorKa5
import Derived.Test.YtoaifonjemlfcaaDoorKa8
import Derived.Test.YtoaifonjemlfcaaDoorKa9
set_option linter.unusedVariables false
set_option linter.unusedSimpArgs false
set_option maxRecDepth 100000
namespace Go.Proofs.YtoaifonjemlfcaaDoor.AM
open Go Go.RowKit
attribute [local irreducible] xM xO xg yE y7 Pre ACG
theorem aDP {t : ByteArray} (ht : t.size ≤ maxLen) {x : Int} (h2 : AC Tryd.prog 7 [.v (.string t), .v (.int .i64 x)] ⟨.tup [.v (.int .i64 (kV t x).1), .v (.int .i64 (kV t x).2.1), .v (.int .i64 (kV t x).2.2)], []⟩) : AC Tryd.prog 3 [.v (.string t), .v (.int .i64 x)] ⟨.v (.bool true), []⟩ := by
 have ht' := ht
 unfold maxLen at ht'
 by_cases hl : 1048576 < t.size
 · refine qrf Tryd.func3 Tryd.ntmps3 Tryd.results3 ?_; conv => whnf
   repeat ((refine qz ?_; conv => whnf))
   exact xA rfl trivial
 have h1 := aI6 (x := x) ht
 generalize kV t x = R at h1 h2
 refine qrf Tryd.func3 Tryd.ntmps3 Tryd.results3 ?_; conv => whnf
 repeat ((first | refine qz ?_ | refine qc (h1) ?_ | refine qc (h2) ?_); conv => whnf)
 exact xA rfl trivial
end Go.Proofs.YtoaifonjemlfcaaDoor.AM
namespace Go.Proofs.YtoaifonjemlfcaaDoor.AM
open Go Go.RowKit
theorem law_TakeNumberU {t : ByteArray} {x : Int} (ht : t.size ≤ maxLen) : AC Tryd.prog 3 [.v (.string t), .v (.int .i64 x)] ⟨.v (.bool true), []⟩ := aDP ht (aBx ht)
end Go.Proofs.YtoaifonjemlfcaaDoor.AM
