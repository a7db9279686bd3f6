/- The machine over data (LawE, LawE2). -/
import Derived.Test.YtjhimcddgkoghaaBase
/- The law's helpers on entries: size, copy, equality. -/
namespace Go.Proofs.Ytjhimcddgkoghaa
open Go.RowKit

end Go.Proofs.Ytjhimcddgkoghaa
namespace Go.Proofs.Ytjhimcddgkoghaa
open Go.RowKit

theorem info_Entry : (Try.prog.info? 167).map (fun i => (i.zero, i.size, i.bytes)) = some (some (.agg #[.string ByteArray.empty, .int .i64 0]), 2, 24) := by kernel_rfl

end Go.Proofs.Ytjhimcddgkoghaa
