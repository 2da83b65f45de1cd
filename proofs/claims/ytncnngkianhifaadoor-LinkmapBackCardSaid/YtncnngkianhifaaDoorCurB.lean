/-
  The contract of a cursor's next: it goes behind the next n bytes and tells them, or refuses.
-/
import Derived.Test.YtncnngkianhifaaDoorProg
import Derived.Test.YtncnngkianhifaaDoorWords
import Derived.WalkSpells
import Derived.Lib.MinMax
import Derived.Deep.QuietTactic
import Derived.BigQuiet
namespace Go.Proofs.YtncnngkianhifaaDoor
open Go Go.RowKit

theorem only_refl (w : World) (row : Option Nat) : w.grownBy w row := ⟨rfl, rfl, rfl, Nat.le_refl _, fun _ _ _ => rfl⟩

end Go.Proofs.YtncnngkianhifaaDoor
