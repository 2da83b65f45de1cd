/-
  The document's own answer for Put, and its size; bytes turned into a string.
-/
import Derived.Test.YtpmpgfngogdfhaaDoorPut
import Derived.Laws.IdiomStrings
import Derived.Laws.BytesArg
namespace Go.Proofs.YtpmpgfngogdfhaaDoor
open Go Go.RowKit

theorem size_any (s : Int) (w : World) (hs : -9223372036854775808 ≤ s ∧ s ≤ 9223372036854775807) :
    Calls Tryd.prog 90 #[.int .i64 s] w fun r w' => r = .returned (.int .i64 (clampOf s : Int)) ∧ w = w' := by
  by_cases h0 : s < 0
  · have H := Lib.hid (show ((clampOf s : Nat) : Int) = 0 by unfold clampOf; omega)
    go_enter Tryd.func90, Tryd.ntmps90
    go_wp2
    go_ret
    exact ⟨by rw [H.out]; rfl, rfl⟩
  · by_cases h8 : 8 < s
    · have H := Lib.hid (show ((clampOf s : Nat) : Int) = 8 by unfold clampOf; omega)
      go_enter Tryd.func90, Tryd.ntmps90
      go_wp2
      go_ret
      exact ⟨by rw [H.out]; rfl, rfl⟩
    · have H := Lib.hid (show ((clampOf s : Nat) : Int) = s by unfold clampOf; omega)
      go_enter Tryd.func90, Tryd.ntmps90
      go_wp2
      go_ret
      exact ⟨by rw [H.out]; rfl, rfl⟩

/-- Bytes as a string, wherever they lie. -/
theorem conv_rd {w : World} {B : Nat} {A : Option Addr} {l : List UInt8} (h : Rd w B A l) (c : Nat) : (convert 65 9 (.slice A l.length c)).run Tryd.prog w = .ok (.string ⟨l.toArray⟩) w := by
  rcases A with _ | ad
  · have hl : l = [] := by
      rcases l with _ | ⟨x, t⟩
      · rfl
      · obtain ⟨b, o, e, _⟩ := h (by simp); cases e
    subst hl
    exact run_convert_bytes_nil _ _ _ Tryd.underlying65 Tryd.underlying5 _ _ _ Tryd.underlying9
  · refine run_convert_bytes_back w _ _ _ ad c l Tryd.underlying65 Tryd.underlying5 Tryd.underlying9 fun j hj => ?_
    obtain ⟨b, o, e, _, hc⟩ := h (by omega)
    injection e with e
    subst e
    rw [addr_add]
    exact hc j _ (List.getElem?_eq_getElem hj)

/-- Bytes of the call's own as a string. -/
theorem conv_own {w : World} {base : Nat} {v : Value} {l : List UInt8} (h : Own w base v l) : (convert 65 9 v).run Tryd.prog w = .ok (.string ⟨l.toArray⟩) w := by
  obtain ⟨A, c, rfl, _, _, hr⟩ := own_slice h
  exact conv_rd hr c

end Go.Proofs.YtpmpgfngogdfhaaDoor
