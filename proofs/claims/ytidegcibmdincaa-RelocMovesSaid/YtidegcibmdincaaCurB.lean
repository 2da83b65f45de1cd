/-
  The contract of a cursor's next: it goes behind the next n bytes and tells them, or refuses.
-/
import Derived.Test.YtidegcibmdincaaProg
import Derived.Test.YtidegcibmdincaaWords
import Derived.WalkSpells
import Derived.Lib.MinMax
import Derived.Deep.QuietTactic
import Derived.BigQuiet
namespace Go.Proofs.Ytidegcibmdincaa
open Go Go.RowKit

/-- What clamp makes of a size. -/
def clampOf (s : Int) : Nat := (min (max s 0) 8).toNat
theorem clampOf_le (s : Int) : clampOf s ≤ 8 := by unfold clampOf; omega
theorem clamp_any (s : Int) (w : World) (hs : -9223372036854775808 ≤ s ∧ s ≤ 9223372036854775807) :
    Calls Try.prog 32 #[.int .i64 s] w fun r w' => r = .returned (.int .i64 (clampOf s : Int)) ∧ w = w' := by
  have H := Lib.hid (show ((clampOf s : Nat) : Int) = min (max s 0) 8 by unfold clampOf; omega)
  go_enter Try.func32, Try.ntmps32
  go_wp2
  go_ret
  exact ⟨by rw [H.out]; rfl, rfl⟩

end Go.Proofs.Ytidegcibmdincaa

namespace Go.Proofs.Ytidegcibmdincaa
open Go Go.RowKit

theorem only_refl (w : World) (row : Option Nat) : w.grownBy w row := ⟨rfl, rfl, rfl, Nat.le_refl _, fun _ _ _ => rfl⟩

end Go.Proofs.Ytidegcibmdincaa
