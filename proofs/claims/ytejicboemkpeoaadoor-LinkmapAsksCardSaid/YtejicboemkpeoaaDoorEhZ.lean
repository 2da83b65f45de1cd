/-
  What every row of package elfhead has in common: the table of first bytes out of the row's list, a world for the witness; an argument's bytes, and a header, opened to their cells.
-/
import Derived.Test.YtejicboemkpeoaaDoorCards
import Derived.Test.YtejicboemkpeoaaDoorTie
import Derived.Test.YtejicboemkpeoaaDoorEhC
import Derived.Test.YtejicboemkpeoaaDoorCsL
import Derived.WalkKit
import Derived.ProofKit
import Derived.OpenShut
import Derived.SizedLaws
import Derived.Lib.LaidTab
import Derived.Deep.DeepHandedRow
namespace Go.Proofs.YtejicboemkpeoaaDoor
open Go Go.ChangeShapes Go.WideShapes Go.ChangeAt Go.RowKit

theorem eh_one : Tryd.prog.cellsOf 3 = 1 := by kernel_rfl
theorem eh_one' : Tryd.prog.cellsOf 41 = 1 := by kernel_rfl
section
variable {H : Type} {enc : TypeId × Value → H} {w : World}
set_option maxRecDepth 10000 in
/-- Bytes that came in, as the walks ask for them. -/
theorem eh_row {held : Bool} {fuel : Nat} {a : Option Addr} {len cap : Nat} {x : DataW H × List MemPlace}
    (h : DataW.trod enc Tryd.prog w 0 (fun _ => true) held fuel 68 (Value.slice a len cap).cells.toList = some x) :
    ∃ zs, IsRow .u8 w a len cap zs ∧ (cap = 0 ∨ ∃ es ss, x.1 = .slice es ss ∧ es.length + ss.length = cap) := by
  rcases open_ints Tryd.underlying68 Tryd.underlying5 (by kernel_rfl) h with ⟨hcs, _⟩ | ⟨b, l, c, zs, hcs, _, hl, hm, hz, hx, hcell, hwz⟩
  · simp [Value.cells] at hcs
    obtain ⟨rfl, rfl, rfl⟩ := hcs
    exact ⟨[], .inl ⟨rfl, rfl, rfl, rfl⟩, .inl rfl⟩
  · simp [Value.cells] at hcs
    obtain ⟨rfl, rfl, rfl⟩ := hcs
    have hzc : zs.length = cap := by simpa using hz
    exact ⟨zs, .inr ⟨_, rfl, hl, hm, hzc, hcell, hwz⟩, .inr ⟨_, _, by rw [hx], by simp [lits]; omega⟩⟩

end

end Go.Proofs.YtejicboemkpeoaaDoor
