/-
  Package sects: tell.
-/
import Derived.Test.YtejicboemkpeoaaDoorSeR
import Derived.Test.YtejicboemkpeoaaDoorEhH
import Derived.Test.YtejicboemkpeoaaDoorKeep
import Derived.Lib.AppendZerosOnto
import Derived.Test.YtejicboemkpeoaaDoorPoX
import Derived.Test.YtejicboemkpeoaaDoorPut
import Derived.Test.YtejicboemkpeoaaDoorEhC
import Derived.Test.YtejicboemkpeoaaDoorEhA
import Derived.Laws.ResultCell
import Derived.Stop.BytesEq
import Derived.Laws.Cover3
import Derived.Test.YtejicboemkpeoaaDoorCsL
import Derived.Test.YtejicboemkpeoaaDoorCsQ
namespace Go.Proofs.YtejicboemkpeoaaDoor
open Go Go.RowKit

section
variable {base : Nat} {bad : Obj → Prop} {a b : World}
theorem Only.drew (h : Only base bad a b) : Only base bad a b.drew := ⟨h.1.drew, h.2⟩
theorem Only.alloc (h : Only base bad a b) (hs : base ≤ b.heap.size) (o : Obj) : Only base bad a (b.alloc o) := h.trans (Only.below ((Below.refl _ _).alloc (Nat.le_refl _) o) hs)
end

end Go.Proofs.YtejicboemkpeoaaDoor

namespace Go.Proofs.YtejicboemkpeoaaDoor
open Go Go.RowKit

/-! ### An entry's numbers -/
def sizesN : List Nat := [4, 4, 8, 8, 8, 8, 4, 4, 8, 8]
end Go.Proofs.YtejicboemkpeoaaDoor

namespace Go.Proofs.YtejicboemkpeoaaDoor
open Go Go.RowKit

def offsN : List Nat := [0, 4, 8, 16, 24, 32, 40, 44, 48, 56]
/-- The numbers of an entry that stands at a place. -/
def entN (l : List UInt8) (o : Nat) : List Nat := (offsN.zip sizesN).map fun p => numT l (o + p.1) p.2
end Go.Proofs.YtejicboemkpeoaaDoor

namespace Go.Proofs.YtejicboemkpeoaaDoor
open Go Go.RowKit

theorem Only.lower {base base' : Nat} {bad : Obj → Prop} {a b : World} (h : Only base bad a b) (hb : base' ≤ base) : Only base' bad a b := ⟨h.1.mono hb, h.2⟩
end Go.Proofs.YtejicboemkpeoaaDoor

namespace Go.Proofs.YtejicboemkpeoaaDoor
open Go Go.RowKit

def nameN (ns : List Nat) : Nat := ns.getD 0 0
/-- Whether the first k names can be read. -/
def namesOk (l tbl : List UInt8) (off k : Nat) : Prop := ∀ i, i < k → (atT tbl (nameN (entN l (off + 64 * i)))).2 = 0
instance (l tbl : List UInt8) (off k : Nat) : Decidable (namesOk l tbl off k) := Nat.decidableBallLT k fun i _ => (atT tbl (nameN (entN l (off + 64 * i)))).2 = 0
/-- Sections that were told: a row of the call's own, their bytes rows of the call's own. -/
def Told (w : World) (base : Nat) (v : Value) (ss : List Sect) : Prop := ∃ L : List Lay, secsOf L = ss ∧ OwnL w base v L ∧ ∀ x ∈ L, Own w base x.dv x.s.data
theorem Told.below {w w' : World} {base : Nat} {v : Value} {ss : List Sect} (h : Told w base v ss) (hb : Below w.heap.size w w') : Told w' base v ss := by
  obtain ⟨L, h1, h2, h3⟩ := h
  exact ⟨L, h1, row_below h2 hb, fun x hx => own_below (h3 x hx) hb⟩
theorem Told.length {w : World} {base : Nat} {v : Value} {ss : List Sect} (h : Told w base v ss) : ∃ L : List Lay, L.length = ss.length ∧ secsOf L = ss := by
  obtain ⟨L, h1, _⟩ := h
  exact ⟨L, by rw [← h1]; simp, h1⟩
end Go.Proofs.YtejicboemkpeoaaDoor
