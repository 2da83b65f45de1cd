/-
  Package sects: an entry's numbers (numbers).
-/

import Derived.Test.YtpdjpafchfbabaaDoorSeD
import Derived.Test.YtpdjpafchfbabaaDoorZeros
import Derived.Test.YtpdjpafchfbabaaDoorPoX
namespace Go.Proofs.YtpdjpafchfbabaaDoor
open Go Go.RowKit

/-! ### An entry's numbers -/
def sizesN : List Nat := [4, 4, 8, 8, 8, 8, 4, 4, 8, 8]
def numV (g o : Nat) : List Value := ((List.range 10).zip sizesN).flatMap fun x => [Value.pointer (some ⟨g, o + x.1, none⟩), Value.int .i64 (x.2 : Int)]
theorem numV_at (g o k s : Nat) (h : sizesN[k]? = some s) : (numV g o)[k * 2]? = some (.pointer (some ⟨g, o + k, none⟩)) ∧ (numV g o)[k * 2 + 1]? = some (.int .i64 (s : Int)) := by
  have hk : k < 10 := (List.getElem?_eq_some_iff.1 h).1
  have h10 : k = 0 ∨ k = 1 ∨ k = 2 ∨ k = 3 ∨ k = 4 ∨ k = 5 ∨ k = 6 ∨ k = 7 ∨ k = 8 ∨ k = 9 := by omega
  rcases h10 with rfl | rfl | rfl | rfl | rfl | rfl | rfl | rfl | rfl | rfl <;> (injection h with h; subst h; exact ⟨rfl, rfl⟩)

set_option maxRecDepth 10000 in
set_option maxHeartbeats 3200000 in
theorem numbers_at (g o : Nat) (w : World) :
    Calls Tryd.prog 25 #[.pointer (some ⟨g, o, none⟩)] w fun r w' => r = .returned (.slice (some ⟨w.heap.size, 0, none⟩) 10 10) ∧ Box w' w.heap.size 73 (numV g o).toArray ∧ Below w.heap.size w w' := by
  have HX := Lib.hid (Box.new w 73 (numV g o).toArray)
  have HB := Lib.hid ((Below.refl w.heap.size w).alloc (Nat.le_refl _) (.cells (numV g o).toArray 73))
  go_enter Tryd.func25, Tryd.ntmps25
  go_wp2_with fail
  go_region_held_law (fun _ => True) (trivial) (fail)
  all_goals go_wp2
  all_goals go_ret
  all_goals exact ⟨rfl, HX.out.drewN _, below_drewN HB.out _⟩

end Go.Proofs.YtpdjpafchfbabaaDoor
