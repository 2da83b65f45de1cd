/-
  Package group: an object's groups (Take).
-/
import Derived.Test.YtelmfhpefnemfaaDoorLnK
import Derived.Deep.DeepCutAuto
import Derived.Deep.LoopGhost
namespace Go.Proofs.YtelmfhpefnemfaaDoor
open Go Go.RowKit

/-- How things stand behind k sections. -/
structure TakeG (T : TypeId) (w1 w : World) (base mb N : Nat) (v : Value) (L : List GLay) (l : List Grp) (met : List Bool) : Prop where
  list : L.map (·.g) = l
  rows : GSt T w base v L
  met_ : Met w base mb N met
  below : Below base w1 w
section
variable {T : TypeId} {w0 w1 w w' : World} {base mb N : Nat} {v : Value} {L : List GLay} {l : List Grp} {met : List Bool}
theorem TakeG.later (h : TakeG T w1 w base mb N v L l met) (hb : Below w.heap.size w w') (hB : base ≤ w.heap.size) : TakeG T w1 w' base mb N v L l met :=
  ⟨h.list, h.rows.below hb, h.met_.below hb, h.below.trans (hb.mono hB)⟩
/-- A group's bytes were read. -/
theorem TakeG.read (h : TakeG T w1 w base mb N v L l met) (hB : base ≤ w.heap.size) {g : Nat} (hg : w.heap.size = g) (hT : T ≠ 4) {o : Obj} {met' : List Bool} (hM : Met w' base mb N met') (hb : But (ReadP g mb) (w.alloc o) w') : TakeG T w1 w' base mb N v L l met' := by
  have h1 := h.later ((Below.refl w.heap.size w).alloc (Nat.le_refl _) o) hB
  obtain ⟨cs, f, hh⟩ := h1.met_.box
  have hlt := h.met_.lt
  refine ⟨h.list, h1.rows.but hb (fun k hk => ?_) (fun x hx k hk => ?_), hM, h1.below.trans (hb.below (by have := h.met_.lt; simp; omega) (fun k hk => ?_))⟩
  · rintro (rfl | rfl)
    · have := (h.rows.row.lt k hk).2; omega
    · exact row_other h1.rows.row hh hT k hk rfl
  · rintro (rfl | rfl)
    · have := ((h.rows.mem x hx).lt k hk).2; omega
    · exact row_other (h1.rows.mem x hx) hh (by decide) k hk rfl
  · rcases hk with rfl | rfl
    · omega
    · omega
/-- A group more. -/
theorem TakeG.more (h : TakeG T w1 w base mb N v L l met) (hB : base ≤ w.heap.size) (hT : 3 ≠ T) (hT2 : T ≠ 4) {x : GLay} (hx : OwnM w base (.slice x.a x.g.mem.length x.c) x.g.mem) {o : Obj} {v' : Value} (hown : w'.ownsRow base T 4 v' (L.length + 1) (cellsF GLay.cells L ++ x.cells)) (hg : (w.alloc o).grownBy w' v.ownBlock) : TakeG T w1 w' base mb N v' (L ++ [x]) (l ++ [x.g]) met := by
  have hb : Below w.heap.size w (w.alloc o) := (Below.refl w.heap.size w).alloc (Nat.le_refl _) o
  have h1 := h.later hb hB
  obtain ⟨cs, f, hh⟩ := h1.met_.box
  exact ⟨by simp [h.list], h1.rows.more (row_below hx hb) hT hown hg, h1.met_.grown hg (fun e => row_other h1.rows.row hh hT2 _ e.symm rfl), h1.below.trans (below_of_only hg (by have := hb.size; omega) (fun k hk => (h1.rows.row.lt k hk).1))⟩
end

end Go.Proofs.YtelmfhpefnemfaaDoor
