/-
  Package unit: known, the reader of an offset (take$1), numbers: by methods that are handed on as values.
-/
import Derived.Test.YtpmpgfngogdfhaaDoorUnA
import Derived.Test.YtpmpgfngogdfhaaDoorSeB
import Derived.Deep.DeepCutAuto
import Derived.Deep.LoopGhost
import Derived.Deep.RegionHeldLaw
namespace Go.Proofs.YtpmpgfngogdfhaaDoor
open Go Go.RowKit

/-- What the readers of a unit's numbers lean on: the body's cursor, the variables of the cursor and of the form, the table of sizes. -/
structure UIn (w : World) (g pb pw : Nat) (v : Value) (l : List UInt8) (wide : Bool) (s : UCt) : Prop where
  c : Cur w g v l s.1 s.2
  b : Box w pb 87 #[.pointer (some ⟨g, 0, none⟩)]
  d : Box w pw 4 #[.bool wide]
  z : Sz w
section
variable {w0 w w' : World} {g pb pw : Nat} {v : Value} {l : List UInt8} {wide : Bool} {s s' : UCt}
theorem UIn.call (h : UIn w g pb pw v l wide s) (hC : Cur w' g v l s'.1 s'.2) (hG : w.grownBy w' (some g)) : UIn w' g pb pw v l wide s' :=
  ⟨hC, h.b.grown hG (fun e => by injection e with e; exact (h.b.other h.c.1 (by decide)) e), h.d.grown hG (fun e => by injection e with e; exact (h.d.other h.c.1 (by decide)) e), h.z.grown hG (h.z.cur h.c)⟩
theorem UIn.drewN (h : UIn w g pb pw v l wide s) (n : Nat) : UIn (w.drewN n) g pb pw v l wide s := ⟨h.c, h.b, h.d, h.z⟩
theorem UIn.below (h : UIn w g pb pw v l wide s) (hb : Below w.heap.size w w') : UIn w' g pb pw v l wide s :=
  ⟨h.c.below hb, h.b.below hb h.b.lt, h.d.below hb h.d.lt, h.z.below hb h.z.pos⟩
end

section
variable {w : World} {g pb pw : Nat} {v : Value} {l : List UInt8} {wide : Bool} {s : UCt}
end

end Go.Proofs.YtpmpgfngogdfhaaDoor
