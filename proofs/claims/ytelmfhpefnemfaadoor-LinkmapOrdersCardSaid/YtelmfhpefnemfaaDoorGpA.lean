/-
  Groups of sections: what the bytes of an object's groups say, and which sections are left out. No program.
-/
import Derived.Test.YtelmfhpefnemfaaDoorSeA
import Derived.Test.YtelmfhpefnemfaaDoorSyI
import Derived.Test.YtelmfhpefnemfaaDoorEhC
namespace Go.Proofs.YtelmfhpefnemfaaDoor
open Go Go.RowKit

/-- A group. -/
structure Grp where
  place : Nat
  one : Bool
  name : List UInt8
  mem : List Nat

/-- Where the first section of symbols stands; -1. -/
def tabG (S : List Sect) : Int := match S.findIdx? (fun s => s.kind == 2) with
  | some i => (i : Int)
  | none => -1
theorem tabG_none {S : List Sect} (hk : ∀ (j : Nat) (t : Sect), S[j]? = some t → t.kind ≠ 2) : tabG S = -1 := by
  have : S.findIdx? (fun s => s.kind == 2) = none := by
    rw [List.findIdx?_eq_none_iff]
    intro x hx
    obtain ⟨j, hj⟩ := List.getElem?_of_mem hx
    simpa using hk j x hj
  unfold tabG
  rw [this]
section
variable {S : List Sect} {Y : List Sym} {k : Nat} {l : List Grp} {met b : List Bool} {s : Sect}
end
end Go.Proofs.YtelmfhpefnemfaaDoor
