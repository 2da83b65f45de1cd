/-
  A header's bytes, with others behind them, and with whatever where nothing is looked at: which header Take tells. No program is named here but what the chapters' words are in plain functions.
-/
import Derived.Test.YtejicboemkpeoaaDoorPut
import Derived.Test.YtejicboemkpeoaaDoorEhC
import Derived.Test.YtejicboemkpeoaaDoorEhA
import Derived.Laws.ResultCell
import Derived.Stop.BytesEq
import Derived.Laws.Cover3
import Derived.Test.YtejicboemkpeoaaDoorKeep
import Derived.Lib.AppendZerosOnto
import Derived.Test.YtejicboemkpeoaaDoorCsL
namespace Go.Proofs.YtejicboemkpeoaaDoor
open Go Go.RowKit

/-- A place of a header that is looked at. -/
def Looked (i : Nat) : Prop := ¬ (7 ≤ i ∧ i < 16) ∧ ¬ (24 ≤ i ∧ i < 40) ∧ ¬ (48 ≤ i ∧ i < 52) ∧ ¬ (54 ≤ i ∧ i < 56)
/-- The same bytes, wherever one is looked at. -/
def Alike (l l' : List UInt8) : Prop := l'.length = l.length ∧ ∀ i, Looked i → l'[i]? = l[i]?
theorem Alike.refl (l : List UInt8) : Alike l l := ⟨rfl, fun _ _ => rfl⟩
theorem Alike.set {l l' : List UInt8} (h : Alike l l') (i : Nat) (hi : ¬ Looked i) (b : UInt8) : Alike l (l'.set i b) :=
  ⟨by rw [List.length_set]; exact h.1, fun j hj => by
    rw [List.getElem?_set_ne (by rintro rfl; exact hi hj)]
    exact h.2 j hj⟩

end Go.Proofs.YtejicboemkpeoaaDoor
