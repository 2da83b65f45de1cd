/-
  The walks of CursorSums and CursorNobody: whatever the numbers are, the Go text of the statement returns true.
-/
import Derived.Test.YtpmpgfngogdfhaaDoorCurE
import Derived.OpenShut
namespace Go.Proofs.YtpmpgfngogdfhaaDoor
open Go Go.RowKit

/-- A slice of bytes that came in: nil, or a row of cells in memory (the first 'len' are its bytes, the rest its spare room). -/
def IsRow (k : IntKind) (w : World) (a : Option Addr) (len cap : Nat) (zs : List Int) : Prop :=
  (a = none ∧ len = 0 ∧ cap = 0 ∧ zs = []) ∨
  ∃ x, a = some x ∧ len ≤ cap ∧ cap ≤ maxLen ∧ zs.length = cap ∧ (∀ i, i < zs.length → w.cell? (x.add i) = some (.int k (zs.getD i 0))) ∧ ∀ n ∈ zs, (Lit.int k n).wf = true

theorem nat_of_u64 {a : Int} (h : (Lit.int .u64 a).wf = true) : ∃ n : Nat, a = (n : Int) ∧ n < two64 := by
  have := Go.bounds_u64 h
  refine ⟨a.toNat, by omega, ?_⟩
  unfold two64; omega
end Go.Proofs.YtpmpgfngogdfhaaDoor
