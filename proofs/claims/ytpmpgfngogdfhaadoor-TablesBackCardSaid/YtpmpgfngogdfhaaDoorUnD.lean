/-
  Package unit: take: a unit's head, read.
-/
import Derived.Test.YtpmpgfngogdfhaaDoorUnB
import Derived.Test.YtpmpgfngogdfhaaDoorCurE
import Derived.Test.YtpmpgfngogdfhaaDoorRefC
namespace Go.Proofs.YtpmpgfngogdfhaaDoor
open Go Go.RowKit

theorem nextAt_to {l : List UInt8} {a : Nat} {e : Int} {n : Nat} (h : a ≤ l.length) : nextAt l a e n ≤ l.length := by
  unfold nextAt
  split
  · omega
  · exact h
theorem tkA_to {l : List UInt8} {a : Nat} {e : Int} (h : a ≤ l.length) : tkA l a e ≤ l.length := by
  unfold tkA
  split
  · exact nextAt_to h
  · split
    · exact nextAt_to (nextAt_to h)
    · exact nextAt_to h
theorem bdA_to {l : List UInt8} {a : Nat} {e : Int} (h : a ≤ l.length) : bdA l a e ≤ l.length := nextAt_to (tkA_to h)
theorem bd_len (sec : List UInt8) (a : Nat) (e : Int) : (bdG sec a e).length ≤ bdA sec a e := by
  unfold bdG bdA nextGot nextAt
  split
  · simp; omega
  · simp
section
variable {w W W' : World} {gc : Nat} {vc : Value} {sec : List UInt8} {t t' : UCt} {g pb pw : Nat} {v : Value} {l : List UInt8} {wide : Bool} {s s' : UCt} {H : Nat}
end

theorem only_then_below_left {a b c : World} {r : Option Nat} (h : Below a.heap.size a b) (k : b.grownBy c r) : a.grownBy c r := (only_below h r).trans k

end Go.Proofs.YtpmpgfngogdfhaaDoor
