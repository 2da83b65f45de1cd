/-
  Places that a pool told: plain facts; rows of numbers and of texts, with one item more.
-/

import Derived.Test.YtkadjejjillmmaaPoR
import Derived.Test.YtkadjejjillmmaaPoA
import Derived.Test.YtkadjejjillmmaaCsA
import Derived.Test.YtkadjejjillmmaaCsP
import Derived.Test.YtkadjejjillmmaaRefR
import Derived.Test.YtkadjejjillmmaaCsL
import Derived.Test.YtkadjejjillmmaaPoB
import Derived.Test.YtkadjejjillmmaaCsB
import Derived.Deep.AppendLies
namespace Go.Proofs.Ytkadjejjillmmaa
open Go Go.RowKit

theorem findT_keep {l : List (List UInt8)} {t : List UInt8} {p : Nat} (h : findT l t = some p) (s : List UInt8) : findT (addT l s).1 t = some p := by
  rcases addT_cases l s with ⟨_, e⟩ | ⟨q, _, _, e⟩ | ⟨_, _, _, e⟩ | ⟨_, hf, hb, e⟩ <;> rw [e] <;> try exact h
  simp only
  rw [findT_append, h]

/-- Of texts that are not too many none is refused but one that may not be. -/
theorem addT_ok {l : List (List UInt8)} {t : List UInt8} (h : rightT t = true) (hs : spanT l ≤ 60000) : (addT l t).2.2 = 0 ∧ findT (addT l t).1 t = some (addT l t).2.1 ∧ spanT (addT l t).1 ≤ spanT l + 201 := by
  have h2 := (rightT_spec h).1
  rcases addT_cases l t with ⟨h1, _⟩ | ⟨q, _, hf, e⟩ | ⟨_, _, hb, _⟩ | ⟨_, hf, hb, e⟩
  · rw [h] at h1; cases h1
  · rw [e]; exact ⟨rfl, hf, by simp⟩
  · omega
  · rw [e]
    refine ⟨rfl, by simp only; rw [findT_append, hf]; simp, ?_⟩
    simp only [spanT_append, spanT]
    omega

/-! Rows of the call's own. -/
/-- Cells of one kind. -/
def CellsOf (e : TypeId) : Obj → Prop
  | .cells _ t _ => t = e
  | _ => False

theorem row_only {w w' : World} {base base' : Nat} {bad : Obj → Prop} {e : TypeId} {size n : Nat} {v : Value} {xs : List Value} (h : w.ownsRow base e size v n xs) (hb : Only base' bad w w') (hn : ∀ cs f, ¬ bad (.cells cs e f)) : w'.ownsRow base e size v n xs :=
  ⟨h.1, h.2.imp id fun ⟨g, cap, cur, p, q, hg, r⟩ => ⟨g, cap, cur, p, q, hb.2 _ _ hg (hn _ _), r⟩⟩

theorem row_turns {w w' : World} {base : Nat} {e : TypeId} {size n : Nat} {v : Value} {xs : List Value} (h : w.ownsRow base e size v n xs) (hg : w.grownBy w' v.ownBlock) (hb : base ≤ w.heap.size) : Only base (CellsOf e) w w' := by
  rcases h.2 with ⟨rfl, _⟩ | ⟨g', cap, cur, rfl, hgb, hh, _⟩
  · exact Only.below (below_of_only hg (Nat.le_refl _) (by simp [Value.ownBlock])) hb
  · exact Only.row (g := g') hg hh rfl hgb

theorem PoolAt.base_le {w : World} {base base' g mb : Nat} {v : Value} {ls : List (List UInt8)} (h : PoolAt w base g mb v ls) (hb : base' ≤ base) : PoolAt w base' g mb v ls := by
  obtain ⟨p1, p2, p3, p4, p6, p7⟩ := h
  exact ⟨p1, Nat.le_trans hb p2, Nat.le_trans hb p3, p4, own_up p6 hb, p7⟩

end Go.Proofs.Ytkadjejjillmmaa
