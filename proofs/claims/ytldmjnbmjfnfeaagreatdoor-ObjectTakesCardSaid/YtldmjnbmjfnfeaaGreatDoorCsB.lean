/-
  The walk of CstrBack: texts that may be, put one behind the other, are taken one by one, are all that there is, and stand where their sizes say.
-/
import Derived.Test.YtldmjnbmjfnfeaaGreatDoorCsS
import Derived.Lib.SlBytesConst
import Derived.Test.YtldmjnbmjfnfeaaGreatDoorCsL
namespace Go.Proofs.YtldmjnbmjfnfeaaGreatDoor
open Go Go.RowKit

theorem right_all (s : List UInt8) (w : World) :
    Calls Tryz.prog 115 #[.string ⟨s.toArray⟩] w fun r w' => r = .returned (.bool (rightT s)) ∧ w = w' := by
  by_cases hs : s.length ≤ 140737488355328
  · exact right_any s w hs
  · have hsz : (ByteArray.mk s.toArray).size = s.length := rfl
    have hd : decide ((s.length : Int) ≤ 200) = false := by simp; omega
    have HR := Lib.hid (show rightT s = false by unfold rightT; rw [decide_eq_false (by omega)]; rfl)
    clear hs
    generalize ByteArray.mk s.toArray = b at *
    generalize s.length = n at *
    subst hsz
    go_enter Tryz.func115, Tryz.ntmps115
    go_wp2_with fail
    go_ret
    exact ⟨by rw [HR.out]; rfl, rfl⟩

end Go.Proofs.YtldmjnbmjfnfeaaGreatDoor
