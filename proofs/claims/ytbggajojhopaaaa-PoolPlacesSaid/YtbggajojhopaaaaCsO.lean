/-
  A slice of strings that came in, opened to its cells.
-/
import Derived.Test.YtbggajojhopaaaaCsB
import Derived.ProofKit
import Derived.OpenShut
import Derived.SliceStrings
namespace Go.Proofs.Ytbggajojhopaaaa
open Go Go.RowKit Go.ChangeShapes Go.WideShapes

theorem txts_of {H : Type} {enc : TypeId × Value → H} {w : World} {spare : Nat → Bool} {held : Bool} {fuel : Nat} {a1 : Option Addr} {len1 cap1 : Nat} {x : DataW H × List MemPlace}
    (h : DataW.trod enc Try.prog w 0 spare held fuel 63 (Value.slice a1 len1 cap1).cells.toList = some x) : ∃ ls : List (List UInt8), ls.length = len1 ∧ Txts w a1 ls ∧ len1 ≤ cap1 := by
  rcases open_strings Try.underlying63 Try.underlying9 (by kernel_rfl) h with ⟨hcs, _⟩ | ⟨a, len, cap, ss, hcs, _, hl, hm, hz, _, hcell, _⟩
  · simp [Value.cells] at hcs
    obtain ⟨rfl, rfl, rfl⟩ := hcs
    exact ⟨[], rfl, fun h0 => absurd h0 (by simp), Nat.le_refl _⟩
  · simp [Value.cells] at hcs
    obtain ⟨rfl, rfl, rfl⟩ := hcs
    have hle : len1 ≤ ss.length := by rw [hz]; split <;> omega
    refine ⟨(ss.take len1).map fun s => s.data.toList, by simp; omega, fun h0 => ?_, hl⟩
    have hl0 : 0 < len1 := by simp at h0; omega
    have hc0 := hcell 0 (by omega)
    obtain ⟨b, o, spot⟩ := a
    have hspot : spot = none := by simpa [Addr.add] using World.cell?_spot hc0
    subst hspot
    refine ⟨b, o, rfl, ?_, fun j t ht => ?_⟩
    · have := World.block_lt_of_cell? w _ hc0
      simpa [addr_add] using this
    · obtain ⟨hj, rfl⟩ := List.getElem?_eq_some_iff.1 ht
      have hj1 : j < len1 := by simp at hj; omega
      have hcj := hcell j (by omega)
      rw [addr_add] at hcj
      rw [hcj]
      simp only [List.getD_eq_getElem?_getD, List.getElem?_eq_getElem (show j < ss.length by omega), Option.getD_some, List.getElem_map, List.getElem_take]

end Go.Proofs.Ytbggajojhopaaaa
