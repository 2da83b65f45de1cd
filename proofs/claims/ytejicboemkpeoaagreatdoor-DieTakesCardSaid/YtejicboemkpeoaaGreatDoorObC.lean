/-
  Package object: where the section of symbols stands (symbolTable), and the document's (place).
-/
import Derived.Test.YtejicboemkpeoaaGreatDoorSeA
namespace Go.Proofs.YtejicboemkpeoaaGreatDoor
open Go Go.RowKit

/-- Where the section of Type 2 stands among the first k: -1: nowhere, -2: there are several. -/
def placeK (S : List Sect) : Nat → Int
  | 0 => -1
  | k + 1 => match S[k]? with
    | none => placeK S k
    | some s => if s.kind = 2 then (if placeK S k = -1 then (k : Int) else -2) else placeK S k
def placeS (S : List Sect) : Int := placeK S S.length
variable {S : List Sect} {k : Nat} {s : Sect}
/-- What the program tells of it: 0 is nowhere. -/
def tabI (S : List Sect) : Int := if placeS S < 0 then 0 else placeS S
def tabE (S : List Sect) : Int := if placeS S = -2 then 23 else 0
def TabAt (S : List Sect) (k t : Nat) : Prop := (t = 0 ∧ placeK S k = -1) ∨ (0 < t ∧ placeK S k = (t : Int))
theorem TabAt.end_ {t : Nat} (h : TabAt S S.length t) : tabI S = (t : Int) ∧ tabE S = 0 := by
  rcases h with ⟨rfl, h⟩ | ⟨h0, h⟩
  · unfold tabI tabE placeS; rw [h]; decide
  · unfold tabI tabE placeS; rw [h]
    exact ⟨if_neg (by omega), if_neg (by omega)⟩
end Go.Proofs.YtejicboemkpeoaaGreatDoor
