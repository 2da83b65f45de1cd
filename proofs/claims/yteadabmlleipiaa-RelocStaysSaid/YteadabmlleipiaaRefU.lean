/-
  The document's own parts, U and S of layer 2.
-/
import Derived.Test.YteadabmlleipiaaRefR
import Derived.Test.YteadabmlleipiaaNums
import Derived.Laws.Bits128
import Derived.RowKit
import Derived.Test.YteadabmlleipiaaLebU
import Derived.RangeFuncNested
import Derived.RangeFuncBound
import Derived.RangeFuncCalls
import Derived.RangeFuncLeaves
import Derived.WalkKit
import Derived.Deep.RegionHeld
import Derived.ControlIn
import Derived.OrdersIn
namespace Go.Proofs.Yteadabmlleipiaa
open Go Go.RowKit

/-- The seven-bit parts as the cells that hold them. -/
def digs (l : List UInt8) : List Value := l.map fun b => Value.int .u64 ((b.toNat % 128 : Nat) : Int)
@[simp] theorem digs_length (l : List UInt8) : (digs l).length = l.length := by simp [digs]

theorem rowblock_ge {w : World} {base : Nat} {t : TypeId} {v : Value} {n : Nat} {xs : List Value} (h : w.ownsRow base t 1 v n xs) : ∀ k, v.ownBlock = some k → base ≤ k := by
  intro k hk
  rcases h.2 with ⟨rfl, _⟩ | ⟨g', cap, cur, rfl, hb, _⟩
  · simp [Value.ownBlock] at hk
  · have e : g' = k := by simpa [Value.ownBlock] using hk
    omega

/-- A row of the call's own, behind a step of a block that lay there. -/
theorem row_past {w w' : World} {base g : Nat} {t : TypeId} {v : Value} {n : Nat} {xs : List Value} (h : w.ownsRow base t 1 v n xs) (hg : w.grownBy w' (some g)) (hlt : g < base) : w'.ownsRow base t 1 v n xs := by
  refine h.kept hg ?_
  rcases hv : v.ownBlock with _ | q
  · exact .inl rfl
  · refine .inr fun e => ?_
    have := rowblock_ge h q hv
    injection e with e
    omega

end Go.Proofs.Yteadabmlleipiaa
