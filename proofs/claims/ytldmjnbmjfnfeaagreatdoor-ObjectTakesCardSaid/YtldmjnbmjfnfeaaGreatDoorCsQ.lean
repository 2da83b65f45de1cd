/-
  The document's own Right and Put of layer 3.
-/
import Derived.Test.YtldmjnbmjfnfeaaGreatDoorCsJ
import Derived.Test.YtldmjnbmjfnfeaaGreatDoorPutR
namespace Go.Proofs.YtldmjnbmjfnfeaaGreatDoor
open Go Go.RowKit

theorem right_any (s : List UInt8) (w : World) (hs : s.length ≤ 140737488355328) :
    Calls Tryz.prog 115 #[.string ⟨s.toArray⟩] w fun r w' => r = .returned (.bool (rightT s)) ∧ w = w' := by
  have hI := fun W => index_str s W
  have hsz : (ByteArray.mk s.toArray).size = s.length := rfl
  by_cases h1 : s.length ≤ 200
  · have hd : decide ((s.length : Int) ≤ 200) = true := by simp; omega
    by_cases h2 : tlen s = s.length
    · have hz : zeroAt s = -1 := if_neg (by omega)
      have HR := Lib.hid (show rightT s = true by unfold rightT; simp [h1, h2])
      rw [hz] at hI
      clear hz h1 h2 hs
      generalize ByteArray.mk s.toArray = b at *
      generalize s.length = n at *
      subst hsz
      go_enter Tryz.func115, Tryz.ntmps115
      go_wp2_with (go_at_call 131; refine (hI _).mono ?_; rintro r w' ⟨rfl, rfl⟩)
      go_ret
      exact ⟨by rw [HR.out]; rfl, rfl⟩
    · have hle := tlen_le s
      have hz : zeroAt s = (tlen s : Int) := if_pos (by omega)
      have HR := Lib.hid (show rightT s = false by unfold rightT; simp [h1, h2])
      have hn : decide ((tlen s : Int) < 0) = false := by simp
      rw [hz] at hI
      clear hz h1 h2 hs hle
      generalize tlen s = k at *
      generalize ByteArray.mk s.toArray = b at *
      generalize s.length = n at *
      subst hsz
      go_enter Tryz.func115, Tryz.ntmps115
      go_wp2_with (go_at_call 131; refine (hI _).mono ?_; rintro r w' ⟨rfl, rfl⟩)
      go_ret
      exact ⟨by rw [HR.out]; rfl, rfl⟩
  · have hd : decide ((s.length : Int) ≤ 200) = false := by simp; omega
    have HR := Lib.hid (show rightT s = false by unfold rightT; simp [h1])
    clear h1 hI hs
    generalize ByteArray.mk s.toArray = b at *
    generalize s.length = n at *
    subst hsz
    go_enter Tryz.func115, Tryz.ntmps115
    go_wp2_with fail
    go_ret
    exact ⟨by rw [HR.out]; rfl, rfl⟩

end Go.Proofs.YtldmjnbmjfnfeaaGreatDoor

namespace Go.Proofs.YtldmjnbmjfnfeaaGreatDoor
open Go Go.RowKit

theorem byte_zero (b : UInt8) : ((b.toNat : Int) == 0) = decide (b = 0) := by
  by_cases h : b = 0
  · subst h; rfl
  · have : b.toNat ≠ 0 := fun e => h (UInt8.toNat_inj.1 (by simpa using e))
    simp [h, this]

theorem up_next {s : List UInt8} {k : Nat} (hup : ∀ j (hj : j < s.length), j < k → s[j] ≠ 0) (h : k < s.length) (hb : s[k] ≠ 0) : ∀ j (hj : j < s.length), j < k + 1 → s[j] ≠ 0 := fun j hj hjk => by
  rcases Nat.lt_or_ge j k with h1 | h1
  · exact hup j hj h1
  · have e : j = k := by omega
    subst e
    exact hb

end Go.Proofs.YtldmjnbmjfnfeaaGreatDoor
