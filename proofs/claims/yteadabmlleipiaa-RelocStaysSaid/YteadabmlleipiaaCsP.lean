/-
  The contracts of layer 3's Right and Put, and of the document's own.
-/
import Derived.Test.YteadabmlleipiaaPoC
import Derived.Test.YteadabmlleipiaaLawA
namespace Go.Proofs.Yteadabmlleipiaa
open Go Go.RowKit

theorem right_any (s : List UInt8) (w : World) (hs : s.length ≤ 140737488355328) :
    Calls Try.prog 94 #[.string ⟨s.toArray⟩] w fun r w' => r = .returned (.bool (rightT s)) ∧ w = w' := by
  have hI := fun W => index_str s W
  have hsz : (ByteArray.mk s.toArray).size = s.length := rfl
  by_cases h1 : s.length ≤ 200
  · have hd : decide ((s.length : Int) ≤ 200) = true := by simp; omega
    by_cases h2 : tlen s = s.length
    · have hz : zeroAt s = -1 := if_neg (by omega)
      have HR := Lib.hid (show rightT s = true by unfold rightT; simp [h1, h2])
      rw [hz] at hI
      clear hz h1 h2 hs
      generalize ByteArray.mk s.toArray = b at *
      generalize s.length = n at *
      subst hsz
      go_enter Try.func94, Try.ntmps94
      go_wp2_with (go_at_call 107; refine (hI _).mono ?_; rintro r w' ⟨rfl, rfl⟩)
      go_ret
      exact ⟨by rw [HR.out]; rfl, rfl⟩
    · have hle := tlen_le s
      have hz : zeroAt s = (tlen s : Int) := if_pos (by omega)
      have HR := Lib.hid (show rightT s = false by unfold rightT; simp [h1, h2])
      have hn : decide ((tlen s : Int) < 0) = false := by simp
      rw [hz] at hI
      clear hz h1 h2 hs hle
      generalize tlen s = k at *
      generalize ByteArray.mk s.toArray = b at *
      generalize s.length = n at *
      subst hsz
      go_enter Try.func94, Try.ntmps94
      go_wp2_with (go_at_call 107; refine (hI _).mono ?_; rintro r w' ⟨rfl, rfl⟩)
      go_ret
      exact ⟨by rw [HR.out]; rfl, rfl⟩
  · have hd : decide ((s.length : Int) ≤ 200) = false := by simp; omega
    have HR := Lib.hid (show rightT s = false by unfold rightT; simp [h1])
    clear h1 hI hs
    generalize ByteArray.mk s.toArray = b at *
    generalize s.length = n at *
    subst hsz
    go_enter Try.func94, Try.ntmps94
    go_wp2_with fail
    go_ret
    exact ⟨by rw [HR.out]; rfl, rfl⟩

end Go.Proofs.Yteadabmlleipiaa
