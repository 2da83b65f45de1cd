/-
  The document's Take: which header a file's bytes begin with, or why none.
-/
import Derived.Test.YtldmjnbmjfnfeaaGreatDoorEhE
import Derived.Test.YtldmjnbmjfnfeaaGreatDoorEhA
import Derived.Test.YtldmjnbmjfnfeaaGreatDoorCsL
namespace Go.Proofs.YtldmjnbmjfnfeaaGreatDoor
open Go Go.RowKit

theorem numT_take (l : List UInt8) (f n : Nat) (h : f + n ≤ 64) : numT (l.take 64) f n = numT l f n := by
  unfold numT cutT
  rw [List.drop_take, List.take_take, Nat.min_eq_left (by omega)]

end Go.Proofs.YtldmjnbmjfnfeaaGreatDoor
