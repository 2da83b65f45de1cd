/-
  Places that a pool told: plain facts; rows of numbers and of texts, with one item more.
-/
import Derived.Test.YtpmpgfngogdfhaaDoorPoA
import Derived.Test.YtpmpgfngogdfhaaDoorCsM
import Derived.Test.YtpmpgfngogdfhaaDoorCurN
import Derived.Test.YtpmpgfngogdfhaaDoorPutR
import Derived.Test.YtpmpgfngogdfhaaDoorParts
import Derived.WalkMore
import Derived.Test.YtpmpgfngogdfhaaDoorPut
import Derived.Lib.BytesEntry
import Derived.Lib.AppendStr
import Derived.Laws.Externs
import Derived.Deep.Slices
import Derived.Test.YtpmpgfngogdfhaaDoorRefR
import Derived.Test.YtpmpgfngogdfhaaDoorCsL
import Derived.Lib.SlBytesConst
import Derived.Test.YtpmpgfngogdfhaaDoorPoK
import Derived.Deep.RegionHeldLaw
import Derived.Test.YtpmpgfngogdfhaaDoorLawC
import Derived.Deep.AppendLies
namespace Go.Proofs.YtpmpgfngogdfhaaDoor
open Go Go.RowKit

theorem row_only {w w' : World} {base base' : Nat} {bad : Obj → Prop} {e : TypeId} {size n : Nat} {v : Value} {xs : List Value} (h : w.ownsRow base e size v n xs) (hb : Only base' bad w w') (hn : ∀ cs f, ¬ bad (.cells cs e f)) : w'.ownsRow base e size v n xs :=
  ⟨h.1, h.2.imp id fun ⟨g, cap, cur, p, q, hg, r⟩ => ⟨g, cap, cur, p, q, hb.2 _ _ hg (hn _ _), r⟩⟩

/-- Numbers as the cells that hold them; a row of them. -/
def placeV (l : List Nat) : List Value := l.map fun (p : Nat) => Value.int .u64 (p : Int)
abbrev OwnU (w : World) (base : Nat) (u : Value) (l : List Nat) : Prop := w.ownsRow base 41 1 u l.length (placeV l)
theorem placeV_append (l m : List Nat) : placeV (l ++ m) = placeV l ++ placeV m := by simp [placeV]
theorem u64_info : (Tryd.prog.info? 41).map (fun i => (i.zero, i.size, i.bytes)) = some (some (.int .u64 0), 1, 8) := by kernel_rfl

end Go.Proofs.YtpmpgfngogdfhaaDoor
