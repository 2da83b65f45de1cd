/-
  Package group: a group's bytes read (read).
-/
import Derived.Test.YtidegcibmdincaaLmC
import Derived.Test.YtidegcibmdincaaSeR
import Derived.Deep.DeepCutAuto
import Derived.Deep.LoopGhost
namespace Go.Proofs.Ytidegcibmdincaa
open Go Go.RowKit

/-- The blocks that read turns. -/
abbrev ReadP (g mb : Nat) : Nat → Prop := fun k => k = g ∨ k = mb
section
variable {w0 w w' : World} {g gc base mb n i : Nat} {sb : ByteArray} {one : Bool} {vc v : Value} {d : List UInt8} {M b : List Bool} {k : Nat}
end

end Go.Proofs.Ytidegcibmdincaa
