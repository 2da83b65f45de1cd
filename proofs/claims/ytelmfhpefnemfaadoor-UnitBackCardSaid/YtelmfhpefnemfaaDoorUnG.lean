/-
  Package unit: the document's All.
-/
import Derived.Test.YtelmfhpefnemfaaDoorUnF
namespace Go.Proofs.YtelmfhpefnemfaaDoor
open Go Go.RowKit

theorem rhd_info : (Tryd.prog.info? 79).map (fun i => (i.zero, i.size, i.bytes)) = some (some (.agg #[.int .i64 0, .bool false, .int .u64 0, .int .u64 0, .int .u64 0, .int .u64 0, .int .u64 0, .int .u64 0]), 8, 64) := by kernel_rfl
end Go.Proofs.YtelmfhpefnemfaaDoor
