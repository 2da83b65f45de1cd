/-
  A slice of bools that came in, opened to its cells.
-/
import Derived.Test.YtlfejggailoleaaDoorLtN
import Derived.Deep.Grids
namespace Go.Proofs.YtlfejggailoleaaDoor
open Go Go.RowKit Go.ChangeShapes Go.WideShapes Go.Deep

theorem lt_bools {H : Type} {enc : TypeId × Value → H} {w : World} {held : Bool} {fuel : Nat} {a : Option Addr} {len cap : Nat} {x : DataW H × List MemPlace}
    (h : DataW.trod enc Tryd.prog w 0 (fun _ => true) held fuel 50 (Value.slice a len cap).cells.toList = some x) : ∃ z, IsBools w a len cap z := by
  rcases open_bools Tryd.underlying50 Tryd.underlying4 (by kernel_rfl) h with ⟨hcs, _⟩ | ⟨b, l, c, B, hcs, _, hl, hm, _, hcell⟩
  · simp [Value.cells] at hcs
    obtain ⟨rfl, rfl, rfl⟩ := hcs
    exact ⟨[], rfl, Nat.le_refl _, fun h0 => absurd h0 (by simp)⟩
  · simp [Value.cells] at hcs
    obtain ⟨rfl, rfl, rfl⟩ := hcs
    refine ⟨(List.range len).map B, by simp, hl, fun h0 => ?_⟩
    have hc0 := hcell 0 (by omega)
    obtain ⟨b, o, spot⟩ := b
    have hspot : spot = none := by simpa [Addr.add] using World.cell?_spot hc0
    subst hspot
    refine ⟨b, o, rfl, ?_, fun j u hu => ?_⟩
    · have := World.block_lt_of_cell? w _ hc0
      simpa [addr_add] using this
    · obtain ⟨hj, rfl⟩ := List.getElem?_eq_some_iff.1 hu
      have hj1 : j < len := by simpa using hj
      have hcj := hcell j (by omega)
      rw [addr_add] at hcj
      rw [hcj]
      simp

end Go.Proofs.YtlfejggailoleaaDoor
