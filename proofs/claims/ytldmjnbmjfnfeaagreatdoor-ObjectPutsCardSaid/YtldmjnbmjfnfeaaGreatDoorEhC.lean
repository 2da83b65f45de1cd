/-
  The document's number of some bytes at a place; the table of a header's first bytes as it lies in the package's variable.
-/
import Derived.Test.YtldmjnbmjfnfeaaGreatDoorPutR
namespace Go.Proofs.YtldmjnbmjfnfeaaGreatDoor
open Go Go.RowKit

/-- Some bytes of a list, from a place on. -/
def cutT (l : List UInt8) (f n : Nat) : List UInt8 := (l.drop f).take n
theorem cutT_get (l : List UInt8) (f n k : Nat) (hk : k < n) : (cutT l f n)[k]? = l[f + k]? := by
  unfold cutT
  rw [List.getElem?_take, if_pos hk, List.getElem?_drop]
/-- The number of some bytes at a place. -/
def numT (l : List UInt8) (f n : Nat) : Nat := leNat (cutT l f n)

/-- A header's first bytes. -/
def magB : List UInt8 := [127, 69, 76, 70, 2, 1, 1]
/-- The table of them, as it lies in the package's variable. -/
def Mg (w : World) : Prop := ∀ j u, magB[j]? = some u → w.cell? ⟨0, j, none⟩ = some (.int .u8 (u.toNat : Int))

section
variable {w w' : World}
theorem Mg.pos (h : Mg w) : 0 < w.heap.size := World.block_lt_of_cell? w _ (h 0 127 rfl)
theorem Mg.drewN (h : Mg w) (n : Nat) : Mg (w.drewN n) := h
theorem Mg.below {B : Nat} (h : Mg w) (hb : Below B w w') (hB : 0 < B) : Mg w' := fun j u hu => (hb.cell (p := ⟨0, j, none⟩) hB).trans (h j u hu)
theorem Mg.grown {row : Option Nat} (h : Mg w) (hb : w.grownBy w' row) (hr : row ≠ some 0) : Mg w' :=
  fun j u hu => (World.cell?_of_block (hb.block 0 h.pos (fun e => hr e.symm))).trans (h j u hu)
theorem Mg.alloc (h : Mg w) (o : Obj) : Mg (w.alloc o) := h.below ((Below.refl w.heap.size w).alloc (Nat.le_refl _) o) h.pos
end

end Go.Proofs.YtldmjnbmjfnfeaaGreatDoor
