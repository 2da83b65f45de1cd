/-
  The chapter's example, as the statements ask for it ahead of all else: it comes out true, and nothing that was there turns.
-/
import Derived.Test.YtpmndmbhkfbljaaCurN
namespace Go.Proofs.Ytpmndmbhkfbljaa
open Go Go.RowKit

theorem rd_lit (w : World) (l : List UInt8) : Rd (w.alloc (.cells (u8s l).toArray 5)) (w.heap.size + 1) (some ⟨w.heap.size, 0, none⟩) l := fun _ =>
  ⟨w.heap.size, 0, rfl, by omega, fun j u hu => by
    have h := (Box.new w 5 (u8s l).toArray).cell j
    rw [Nat.zero_add, h]
    simp [u8s_get, hu]⟩

end Go.Proofs.Ytpmndmbhkfbljaa
