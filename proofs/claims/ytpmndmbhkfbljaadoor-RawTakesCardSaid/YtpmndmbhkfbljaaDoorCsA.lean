/-
  The contracts of layer 3's first and At.
-/
import Derived.Test.YtpmndmbhkfbljaaDoorCsL
import Derived.Test.YtpmndmbhkfbljaaDoorCsJ
namespace Go.Proofs.YtpmndmbhkfbljaaDoor
open Go Go.RowKit

theorem rd_cut {w : World} {B : Nat} {A : Option Addr} {l : List UInt8} (h : Rd w B A l) (f n : Nat) : Rd w B (Option.map (fun x => x.add f) A) ((l.drop f).take n) := by
  intro hl
  have hll : 0 < l.length := by simp at hl; omega
  obtain ⟨b, o, rfl, hb, hc⟩ := h hll
  refine ⟨b, o + f, by simp [addr_add], hb, fun j x hx => ?_⟩
  have hx' : l[f + j]? = some x := by
    rw [List.getElem?_take] at hx
    split at hx
    · rwa [List.getElem?_drop] at hx
    · cases hx
  rw [Nat.add_assoc]
  exact hc _ _ hx'

theorem size_u8 (W : World) : (sizeOf (Tryd.prog.elem 22)).run Tryd.prog W = .ok 1 W := by kernel_rfl

/-- What At tells. -/
def atT (l : List UInt8) (off : Nat) : List UInt8 × Int := if off < l.length then ((readT (l.drop off)).1, (readT (l.drop off)).2.2) else ([], 10)

end Go.Proofs.YtpmndmbhkfbljaaDoor
