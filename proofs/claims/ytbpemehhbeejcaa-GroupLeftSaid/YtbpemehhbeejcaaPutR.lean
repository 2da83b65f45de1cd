/-
  The document's own answer for Put, and its size; bytes turned into a string.
-/
import Derived.Test.YtbpemehhbeejcaaCurN
import Derived.Laws.IdiomStrings
import Derived.Laws.BytesArg
namespace Go.Proofs.Ytbpemehhbeejcaa
open Go Go.RowKit

theorem size_any (s : Int) (w : World) (hs : -9223372036854775808 ≤ s ∧ s ≤ 9223372036854775807) :
    Calls Try.prog 31 #[.int .i64 s] w fun r w' => r = .returned (.int .i64 (clampOf s : Int)) ∧ w = w' := by
  by_cases h0 : s < 0
  · have H := Lib.hid (show ((clampOf s : Nat) : Int) = 0 by unfold clampOf; omega)
    go_enter Try.func31, Try.ntmps31
    go_wp2
    go_ret
    exact ⟨by rw [H.out]; rfl, rfl⟩
  · by_cases h8 : 8 < s
    · have H := Lib.hid (show ((clampOf s : Nat) : Int) = 8 by unfold clampOf; omega)
      go_enter Try.func31, Try.ntmps31
      go_wp2
      go_ret
      exact ⟨by rw [H.out]; rfl, rfl⟩
    · have H := Lib.hid (show ((clampOf s : Nat) : Int) = s by unfold clampOf; omega)
      go_enter Try.func31, Try.ntmps31
      go_wp2
      go_ret
      exact ⟨by rw [H.out]; rfl, rfl⟩

end Go.Proofs.Ytbpemehhbeejcaa
