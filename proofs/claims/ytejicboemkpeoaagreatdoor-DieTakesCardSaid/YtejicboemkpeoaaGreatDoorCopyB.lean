/-
  'copy(b[o:], p)' into a row of the call's own that is known whole, and 'b[i] = x': no function of the program is named here.
-/
import Derived.Test.YtejicboemkpeoaaGreatDoorCsL
import Derived.Laws.CopyOwn
import Derived.Lib.BufferWrite
namespace Go.Proofs.YtejicboemkpeoaaGreatDoor
open Go Go.RowKit

/-- A row of bytes that is known whole. -/
abbrev RowB (w : World) (g : Nat) (l : List UInt8) : Prop := Box w g 5 (u8s l).toArray

theorem RowB.own {w : World} {g base : Nat} {l : List UInt8} (h : RowB w g l) (hb : base ≤ g) (hl : l.length ≤ maxLen) : Own w base (.slice (some ⟨g, 0, none⟩) l.length l.length) l :=
  ⟨by simp, .inr ⟨g, l.length, (u8s l).toArray, rfl, hb, h, Nat.le_refl _, hl, by simp, by simpa using List.take_of_length_le (show (u8s l).length ≤ l.length by simp)⟩⟩
theorem RowB.store {w : World} {g : Nat} {l : List UInt8} (h : RowB w g l) (i : Nat) (b : UInt8) : RowB (w.setCell ⟨g, i, none⟩ (.int .u8 (b.toNat : Int))) g (l.set i b) := by
  have := h.set i (.int .u8 (b.toNat : Int))
  unfold RowB
  rw [show u8s (l.set i b) = (u8s l).set i (.int .u8 (b.toNat : Int)) by simp [u8s, List.map_set]]
  simpa using this
section
variable {P : Program}
end

end Go.Proofs.YtejicboemkpeoaaGreatDoor
