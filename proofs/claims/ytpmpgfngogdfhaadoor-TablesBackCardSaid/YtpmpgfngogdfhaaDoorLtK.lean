/-
  What is laid as a length, and behind it what it is of, is read so: plain facts on bytes.
-/
import Derived.Test.YtpmpgfngogdfhaaDoorLtC
namespace Go.Proofs.YtpmpgfngogdfhaaDoor
open Go Go.RowKit

theorem next_mid (p q r : List UInt8) : nextGot (p ++ (q ++ r)) p.length 0 q.length = q ∧ nextAt (p ++ (q ++ r)) p.length 0 q.length = p.length + q.length ∧ nextErr (p ++ (q ++ r)) p.length 0 q.length = 0 := by
  obtain ⟨h1, h2, h3⟩ := next_fits (p ++ (q ++ r)) p.length q.length (by simp)
  refine ⟨?_, h2, h3⟩
  rw [h1, List.drop_left, List.take_left]
end Go.Proofs.YtpmpgfngogdfhaaDoor
