/-
  The walks of CursorSums and CursorNobody: whatever the numbers are, the Go text of the statement returns true.
-/
import Derived.Test.YtpmpgfngogdfhaaDoorCurE
import Derived.OpenShut
namespace Go.Proofs.YtpmpgfngogdfhaaDoor
open Go Go.RowKit

theorem nat_of_u64 {a : Int} (h : (Lit.int .u64 a).wf = true) : ∃ n : Nat, a = (n : Int) ∧ n < two64 := by
  have := Go.bounds_u64 h
  refine ⟨a.toNat, by omega, ?_⟩
  unfold two64; omega
end Go.Proofs.YtpmpgfngogdfhaaDoor
