/-
  Package linkmap: maps by sections, and by names, in memory: what they tell.
-/
import Derived.Test.YtpmndmbhkfbljaaDoorGpE
import Derived.Test.YtpmndmbhkfbljaaDoorSeR
import Derived.Deep.DeepCutAuto
import Derived.Deep.LoopGhost
import Derived.Test.YtpmndmbhkfbljaaDoorPoO
import Derived.DeepKeys4
namespace Go.Proofs.YtpmndmbhkfbljaaDoor
open Go Go.RowKit

/-- Groups of the call's own that lie side by side, their members too. -/
structure GSt (T : TypeId) (w : World) (base : Nat) (v : Value) (L : List GLay) : Prop where
  row : w.ownsRow base T 4 v L.length (cellsF GLay.cells L)
  mem : ∀ x ∈ L, OwnM w base (.slice x.a x.g.mem.length x.c) x.g.mem
theorem GLay.one (x : GLay) : ∀ u ∈ x.cells, u.oneCell' = true := fun u hu => by
  simp only [GLay.cells, List.mem_cons, List.not_mem_nil, or_false] at hu
  rcases hu with rfl | rfl | rfl | rfl <;> rfl
section
variable {T : TypeId} {w w' : World} {base base' : Nat} {v v' : Value} {L : List GLay} {x : GLay}
theorem GSt.nil (T : TypeId) (w : World) (base : Nat) : GSt T w base (.slice none 0 0) [] := ⟨World.ownsRow_nil _ _ _ _, fun _ h => by cases h⟩
theorem GSt.but {P : Nat → Prop} (h : GSt T w base v L) (hb : But P w w') (h1 : ∀ k, v.ownBlock = some k → ¬ P k) (h2 : ∀ x ∈ L, ∀ k, (Value.slice x.a x.g.mem.length x.c).ownBlock = some k → ¬ P k) : GSt T w' base v L :=
  ⟨hb.row h.row h1, fun x hx => hb.row (h.mem x hx) (h2 x hx)⟩
theorem GSt.below (h : GSt T w base v L) (hb : Below w.heap.size w w') : GSt T w' base v L := ⟨row_below h.row hb, fun x hx => row_below (h.mem x hx) hb⟩
theorem GSt.own (h : GSt T w base v L) : OwnG T w base v (L.map (·.g)) := ⟨L, rfl, h.row, h.mem⟩
/-- One more, its members at hand. -/
theorem GSt.more (h : GSt T w base v L) (hx : OwnM w base (.slice x.a x.g.mem.length x.c) x.g.mem) (hT : 3 ≠ T) (hown : w'.ownsRow base T 4 v' (L.length + 1) (cellsF GLay.cells L ++ x.cells)) (hg : w.grownBy w' v.ownBlock) : GSt T w' base v' (L ++ [x]) := by
  refine ⟨by rw [List.length_append, cellsF_append, cellsF_one]; exact hown, fun y hy => ?_⟩
  have hk : ∀ z : GLay, OwnM w base (.slice z.a z.g.mem.length z.c) z.g.mem → OwnM w' base (.slice z.a z.g.mem.length z.c) z.g.mem := fun z hz =>
    ((But.refl (fun k => some k = v.ownBlock) w).grown hg (fun x hx => .inl hx.symm)).row hz (fun k hk hp => by
      obtain ⟨cs, f, hb⟩ := row_heap h.row hp.symm
      exact row_other hz hb hT k hk rfl)
  rcases List.mem_append.1 hy with hy | hy
  · exact hk y (h.mem y hy)
  · obtain rfl := List.mem_singleton.1 hy
    exact hk _ hx
end
end Go.Proofs.YtpmndmbhkfbljaaDoor

namespace Go.Proofs.YtpmndmbhkfbljaaDoor
open Go Go.RowKit Go.Maps

/-- A set of names in memory, the call's own. -/
def SetAt (w : World) (base mb : Nat) (names : List (List UInt8)) : Prop :=
  base ≤ mb ∧ ∃ (n : Nat) (ls : List (List UInt8)), n ≤ names.length ∧ w.ownsMap Tryd.prog 9 (unitElem (H := Unit)) mb n (setT ls) ∧ ∀ t, t ∈ ls ↔ t ∈ names
section
variable {w w' : World} {base mb : Nat} {names : List (List UInt8)}
theorem own_map_block {k : TypeId} {R : Value → Option (DataW Unit × List MemPlace)} {n : Nat} {D : DataW Unit} (h : w.ownsMap Tryd.prog k R mb n D) : ∃ es c, w.heap[mb]? = some (.map es c) := by
  obtain ⟨es, c, hm, _⟩ := h
  exact ⟨es, c, hm⟩
theorem SetAt.block (h : SetAt w base mb names) : ∃ es c, w.heap[mb]? = some (.map es c) := by
  obtain ⟨-, n, ls, -, h, -⟩ := h
  exact own_map_block h
theorem SetAt.lt (h : SetAt w base mb names) : mb < w.heap.size := by
  obtain ⟨es, c, hm⟩ := h.block
  rcases Nat.lt_or_ge mb w.heap.size with h1 | h1
  · exact h1
  · rw [Array.getElem?_eq_none h1] at hm; cases hm
theorem own_map_but {k : TypeId} {R : Value → Option (DataW Unit × List MemPlace)} {n : Nat} {D : DataW Unit} {P : Nat → Prop} (h : w.ownsMap Tryd.prog k R mb n D) (hb : But P w w') (hp : ¬ P mb) : w'.ownsMap Tryd.prog k R mb n D := by
  obtain ⟨es, c, hm, r⟩ := h
  have hlt : mb < w.heap.size := by
    rcases Nat.lt_or_ge mb w.heap.size with h1 | h1
    · exact h1
    · rw [Array.getElem?_eq_none h1] at hm; cases hm
  exact ⟨es, c, (hb.2 mb hlt hp).trans hm, r⟩
theorem SetAt.but {P : Nat → Prop} (h : SetAt w base mb names) (hb : But P w w') (hp : ¬ P mb) : SetAt w' base mb names := by
  obtain ⟨h0, n, ls, h1, h2, h3⟩ := h
  exact ⟨h0, n, ls, h1, own_map_but h2 hb hp, h3⟩
theorem SetAt.below (h : SetAt w base mb names) (hb : Below w.heap.size w w') : SetAt w' base mb names := h.but (P := fun _ => False) (But.of_below hb) (fun h => h)
end
end Go.Proofs.YtpmndmbhkfbljaaDoor

namespace Go.Proofs.YtpmndmbhkfbljaaDoor
open Go Go.RowKit Go.Maps

/-- A map of names tells the symbols. -/
structure YMap (w : World) (base mb : Nat) (Y : List Named) : Prop where
  ge : base ≤ mb
  own : ∃ (n : Nat) (D : DataW Unit), n ≤ Y.length ∧ w.ownsMap Tryd.prog 9 (plainElem Tryd.prog 31) mb n D ∧ IsMap D ∧ ∀ t : List UInt8, t.length ≤ maxLen → Maps.has D (keyT t) = (nameK Y t).isSome ∧ ((nameK Y t).isSome = true → D.atKey (keyT t) (.lit (.int .u64 0)) = .lit (.int .u64 (nameA Y t : Nat)))

section
variable {w w' : World} {base mb : Nat} {P : List Place} {Y : List Named}
theorem YMap.block (h : YMap w base mb Y) : ∃ es c, w.heap[mb]? = some (.map es c) := by
  obtain ⟨-, n, D, -, h, -⟩ := h
  exact own_map_block h
theorem YMap.same (h : YMap w base mb Y) (hb : w'.heap[mb]? = w.heap[mb]?) : YMap w' base mb Y := by
  obtain ⟨h0, n, D, h1, ⟨es, c, hm, r⟩, h3⟩ := h
  exact ⟨h0, n, D, h1, ⟨es, c, hb.trans hm, r⟩, h3⟩
theorem YMap.lt (h : YMap w base mb Y) : mb < w.heap.size := by
  obtain ⟨es, c, hm⟩ := h.block
  exact (Array.getElem?_eq_some_iff.1 hm).1
end

end Go.Proofs.YtpmndmbhkfbljaaDoor
