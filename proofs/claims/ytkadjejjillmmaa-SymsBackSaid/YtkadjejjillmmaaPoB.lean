/-
  The contracts of layer 4's put and Add.
-/

import Derived.Test.YtkadjejjillmmaaPoA
import Derived.Test.YtkadjejjillmmaaPoK
import Derived.Deep.RegionHeldLaw
namespace Go.Proofs.Ytkadjejjillmmaa
open Go Go.RowKit Go.Maps

section
variable {w w1 : World} {base g mb n : Nat} {v : Value} {l : List UInt8}
theorem box_past_row {t : TypeId} {cs : Array Value} (hb : Box w g t cs) (hown : Own w base v l) (ht : 5 ≠ t) (hg : w.grownBy w1 v.ownBlock) : Box w1 g t cs := hb.grown hg (own_other hown hb ht).symm

theorem own_no_map {D : DataW Unit} (hown : Own w base v l) (hm : w.ownsMap Try.prog 9 (plainElem Try.prog 46) mb n D) : some mb ≠ v.ownBlock := by
  obtain ⟨es, c, h1, _⟩ := hm
  rcases hown.2 with ⟨rfl, _⟩ | ⟨g', cap, cur, rfl, _, hh, _⟩
  · simp [Value.ownBlock]
  · intro e
    have e' : mb = g' := by simpa [Value.ownBlock] using e
    subst e'
    rw [h1] at hh
    cases hh

theorem box_no_map {D : DataW Unit} {t : TypeId} {cs : Array Value} (hb : Box w g t cs) (hm : w.ownsMap Try.prog 9 (plainElem Try.prog 46) mb n D) : g ≠ mb := by
  obtain ⟨es, c, h1, _⟩ := hm
  rintro rfl
  unfold Box at hb
  rw [h1] at hb
  cases hb

theorem own_turns (hown : Own w base v l) (hg : w.grownBy w1 v.ownBlock) (hb : base ≤ w.heap.size) : Only base PoolObj w w1 := by
  rcases hown.2 with ⟨rfl, _⟩ | ⟨g', cap, cur, rfl, hgb, hh, _⟩
  · exact Only.below (below_of_only hg (Nat.le_refl _) (by simp [Value.ownBlock])) hb
  · exact Only.row (g := g') hg hh (.inl rfl) hgb

theorem pool_onto {v1 : Value} {ls : List (List UInt8)} {m : List UInt8} (h : PoolAt w base g mb v ls) (ho : Onto w w1 base v v1 (putsT ls) m) : PoolAt w1 base g mb v ls := by
  obtain ⟨p1, p2, p3, ⟨D, p4, p5⟩, p6, p7⟩ := h
  exact ⟨box_past_row p1 p6 (by decide) ho.1.2.1, p2, p3, ⟨D, p4.kept ho.1.2.1 (own_no_map p6 p4), p5⟩, ho.2.1, p7⟩
end

end Go.Proofs.Ytkadjejjillmmaa
