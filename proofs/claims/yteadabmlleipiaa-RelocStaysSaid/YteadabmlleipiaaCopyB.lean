/-
  'copy(b[o:], p)' into a row of the call's own that is known whole, and 'b[i] = x': no function of the program is named here.
-/
import Derived.Test.YteadabmlleipiaaCsL
import Derived.Laws.CopyOwn
import Derived.Lib.BufferWrite
namespace Go.Proofs.Yteadabmlleipiaa
open Go Go.RowKit

/-- Bytes laid over others from a place on. -/
def putAt (l : List UInt8) (o : Nat) (m : List UInt8) : List UInt8 := l.take o ++ m ++ l.drop (o + m.length)
theorem putAt_length (l : List UInt8) (o : Nat) (m : List UInt8) (h : o + m.length ≤ l.length) : (putAt l o m).length = l.length := by simp [putAt]; omega
theorem u8s_putAt (l : List UInt8) (o : Nat) (m : List UInt8) : u8s (putAt l o m) = (u8s l).take o ++ u8s m ++ (u8s l).drop (o + m.length) := by
  simp [putAt, u8s, List.map_take, List.map_drop]

/-- A row of bytes that is known whole. -/
abbrev RowB (w : World) (g : Nat) (l : List UInt8) : Prop := Box w g 5 (u8s l).toArray

theorem RowB.own {w : World} {g base : Nat} {l : List UInt8} (h : RowB w g l) (hb : base ≤ g) (hl : l.length ≤ maxLen) : Own w base (.slice (some ⟨g, 0, none⟩) l.length l.length) l :=
  ⟨by simp, .inr ⟨g, l.length, (u8s l).toArray, rfl, hb, h, Nat.le_refl _, hl, by simp, by simpa using List.take_of_length_le (show (u8s l).length ≤ l.length by simp)⟩⟩
theorem RowB.store {w : World} {g : Nat} {l : List UInt8} (h : RowB w g l) (i : Nat) (b : UInt8) : RowB (w.setCell ⟨g, i, none⟩ (.int .u8 (b.toNat : Int))) g (l.set i b) := by
  have := h.set i (.int .u8 (b.toNat : Int))
  unfold RowB
  rw [show u8s (l.set i b) = (u8s l).set i (.int .u8 (b.toNat : Int)) by simp [u8s, List.map_set]]
  simpa using this
theorem RowB.cell_ {w : World} {g : Nat} {l : List UInt8} (h : RowB w g l) (i : Nat) (hi : i < l.length) : w.cell? ⟨g, i, none⟩ = some (.int .u8 (l[i].toNat : Int)) := by
  rw [h.cell, List.getElem?_toArray, u8s_get, List.getElem?_eq_getElem hi]
  rfl

section
variable {P : Program}
theorem grown_setRow (w : World) (g : Nat) (cs : Array Value) : w.grownBy (w.setRow g cs) (some g) := ⟨rfl, rfl, rfl, by simp [World.setRow], fun k _ hk => setRow_other w g k cs (fun e => hk (by rw [e]))⟩

end

end Go.Proofs.Yteadabmlleipiaa
