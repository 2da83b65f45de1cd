/-
  What every row of package elfhead has in common: the table of first bytes out of the row's list, a world for the witness; an argument's bytes, and a header, opened to their cells.
-/
import Derived.Test.YtldmjnbmjfnfeaaGreatDoorCards
import Derived.Test.YtldmjnbmjfnfeaaGreatDoorTie
import Derived.Test.YtldmjnbmjfnfeaaGreatDoorEhC
import Derived.Test.YtldmjnbmjfnfeaaGreatDoorLawA
import Derived.WalkKit
import Derived.ProofKit
import Derived.OpenShut
import Derived.SizedLaws
import Derived.Lib.LaidTab
import Derived.Deep.DeepHandedRow
namespace Go.Proofs.YtldmjnbmjfnfeaaGreatDoor
open Go Go.ChangeShapes Go.WideShapes Go.ChangeAt Go.RowKit

theorem eh_own : ownKnob Tryz.prog.godebug = none := by kernel_rfl
theorem eh_laidOut : laidOutB Tryz.prog = true := by kernel_rfl
theorem eh_global : Tryz.prog.globalNamed "sindri/elfhead.magic" = some 0 := by kernel_rfl
theorem eh_type : (Tryz.prog.globals[0]?).map (·.type) = some 148 := by kernel_rfl
/-- What each of these rows lists. -/
abbrev ehLaid : List (String × DataW Unit) := [("sindri/elfhead.magic", Rows.laid_sindri_elfhead_magic)]

set_option maxRecDepth 10000 in
theorem mg_of_laid {W : World} (h : laidMetH Tryz.prog ehLaid W) : Mg W := by
  have ht : Lib.TabIs Tryz.prog W "sindri/elfhead.magic" .u8 [127, 69, 76, 70, 2, 1, 1] := Lib.tabIs_of_head (rest := []) eh_global eh_type Tryz.underlying148 Tryz.underlying5 (by kernel_rfl) (by kernel_rfl) h
  intro j u hu
  have hj : j < 7 := (List.getElem?_eq_some_iff.1 hu).1
  have hc := ht.cell eh_global j hj
  have h7 : j = 0 ∨ j = 1 ∨ j = 2 ∨ j = 3 ∨ j = 4 ∨ j = 5 ∨ j = 6 := by omega
  rcases h7 with rfl | rfl | rfl | rfl | rfl | rfl | rfl
  all_goals
    injection hu with hu
    subst hu
    exact hc

/-- A world in which the table holds what its initialiser lays. -/
noncomputable def ehWorld (os : Os) : World :=
  let w := World.holding Tryz.prog os ⟨#[], #[], []⟩
  { w with heap := w.heap.modify 0 fun
      | .cells _ t f => .cells #[.int .u8 127, .int .u8 69, .int .u8 76, .int .u8 70, .int .u8 2, .int .u8 1, .int .u8 1] t f
      | o => o }

section
variable {H : Type} {enc : TypeId × Value → H} {w : World}
set_option maxRecDepth 10000 in
/-- Bytes that came in, as the walks ask for them. -/
theorem eh_row {held : Bool} {fuel : Nat} {a : Option Addr} {len cap : Nat} {x : DataW H × List MemPlace}
    (h : DataW.trod enc Tryz.prog w 0 (fun _ => true) held fuel 22 (Value.slice a len cap).cells.toList = some x) :
    ∃ zs, IsRow .u8 w a len cap zs ∧ (cap = 0 ∨ ∃ es ss, x.1 = .slice es ss ∧ es.length + ss.length = cap) := by
  rcases open_ints Tryz.underlying22 Tryz.underlying5 (by kernel_rfl) h with ⟨hcs, _⟩ | ⟨b, l, c, zs, hcs, _, hl, hm, hz, hx, hcell, hwz⟩
  · simp [Value.cells] at hcs
    obtain ⟨rfl, rfl, rfl⟩ := hcs
    exact ⟨[], .inl ⟨rfl, rfl, rfl, rfl⟩, .inl rfl⟩
  · simp [Value.cells] at hcs
    obtain ⟨rfl, rfl, rfl⟩ := hcs
    have hzc : zs.length = cap := by simpa using hz
    exact ⟨zs, .inr ⟨_, rfl, hl, hm, hzc, hcell, hwz⟩, .inr ⟨_, _, by rw [hx], by simp [lits]; omega⟩⟩

end

end Go.Proofs.YtldmjnbmjfnfeaaGreatDoor
