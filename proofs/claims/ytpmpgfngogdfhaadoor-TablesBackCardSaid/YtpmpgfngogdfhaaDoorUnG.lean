/-
  Package unit: the document's All.
-/
import Derived.Test.YtpmpgfngogdfhaaDoorUnE
import Derived.Test.YtpmpgfngogdfhaaDoorLtB
import Derived.Test.YtpmpgfngogdfhaaDoorRefR
import Derived.Test.YtpmpgfngogdfhaaDoorRefC
import Derived.Test.YtpmpgfngogdfhaaDoorParts
import Derived.Test.YtpmpgfngogdfhaaDoorLtC
namespace Go.Proofs.YtpmpgfngogdfhaaDoor
open Go Go.RowKit

/-- A head of numbers of 64 bits. -/
structure UHd.In (h : UHd) : Prop where
  k : -9223372036854775808 ≤ h.kind ∧ h.kind ≤ 9223372036854775807
  ab : h.ab < two64
  sig : h.sig < two64
  ty : h.ty < two64

end Go.Proofs.YtpmpgfngogdfhaaDoor

namespace Go.Proofs.YtpmpgfngogdfhaaDoor
open Go Go.RowKit

theorem un_rr {B : Nat} {W W1 : World} {g base n m : Nat} {t : TypeId} {v u : Value} {l : List UInt8} {a : Nat} {e : Int} {xs : List Value} (h : RR B W g v l a e) (hrow : W.ownsRow base t m u n xs) (h1 : 127 ≠ t) (hB : B ≤ base) (hg : W.grownBy W1 u.ownBlock) : RR B W1 g v l a e := by
  refine h.grown hg (fun e => ?_) (fun x hx => Nat.le_trans hB (hrow.lt x hx).1)
  rcases hrow.2 with ⟨rfl, _⟩ | ⟨g', cap, cur, rfl, _, hh, _⟩
  · simp [Value.ownBlock] at e
  · have e' : g = g' := by simpa [Value.ownBlock] using e
    subst e'
    have hX := h.1
    unfold Box at hX
    rw [hX] at hh
    injection hh with hh
    injection hh with _ hh
    exact h1 hh
end Go.Proofs.YtpmpgfngogdfhaaDoor
