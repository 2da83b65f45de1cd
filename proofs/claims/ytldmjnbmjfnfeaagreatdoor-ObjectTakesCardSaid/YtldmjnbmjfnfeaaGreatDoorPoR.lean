/-
  The document's own pool of layer 4: Find, Bytes, Add.
-/
import Derived.Test.YtldmjnbmjfnfeaaGreatDoorPoA
import Derived.Test.YtldmjnbmjfnfeaaGreatDoorCsS
import Derived.Lib.SlBytesConst
import Derived.Test.YtldmjnbmjfnfeaaGreatDoorCsQ
namespace Go.Proofs.YtldmjnbmjfnfeaaGreatDoor
open Go Go.RowKit

/-- What the document's Add may turn. -/
def RefObj : Obj → Prop
  | .cells _ t _ => t = 132 ∨ t = 9
  | _ => False

/-- The document's pool in memory: its block, the value of its list, its texts. -/
def RefAt (w : World) (base g : Nat) (u : Value) (ls : List (List UInt8)) : Prop := Box w g 132 #[u] ∧ base ≤ g ∧ OwnS w base u ls

section
variable {w w' : World} {base g : Nat} {u : Value} {ls : List (List UInt8)}
theorem RefAt.kept (h : RefAt w base g u ls) {b : Nat} {bad : Obj → Prop} (hb : Only b bad w w') (h1 : ∀ cs f, ¬ bad (.cells cs 132 f)) (h2 : ∀ cs f, ¬ bad (.cells cs 9 f)) : RefAt w' base g u ls := by
  obtain ⟨p1, p2, p3⟩ := h
  refine ⟨hb.2 _ _ p1 (h1 _ _), p2, p3.1, ?_⟩
  rcases p3.2 with e | ⟨x, cap, cur, e, hx, hg, r⟩
  · exact .inl e
  · exact .inr ⟨x, cap, cur, e, hx, hb.2 _ _ hg (h2 _ _), r⟩
theorem RefAt.below (h : RefAt w base g u ls) (hb : Below w.heap.size w w') : RefAt w' base g u ls :=
  h.kept (Only.below (base := 0) (bad := fun _ => False) hb (Nat.zero_le _)) (fun _ _ x => x) (fun _ _ x => x)
theorem RefAt.drewN (h : RefAt w base g u ls) (n : Nat) : RefAt (w.drewN n) base g u ls := h
theorem RefAt.pool {base' : Nat} (h : RefAt w base g u ls) (hb : Only base' PoolObj w w') : RefAt w' base g u ls :=
  h.kept hb (fun _ _ x => by rcases x with x | x <;> revert x <;> decide) (fun _ _ x => by rcases x with x | x <;> revert x <;> decide)
end

theorem str_eq (s t : List UInt8) : ((ByteArray.mk s.toArray).toList == (ByteArray.mk t.toArray).toList) = decide (s = t) := by
  rw [Lib.toList_data, Lib.toList_data]
  by_cases h : s = t
  · subst h; simp
  · simp [h]

theorem own_up {w : World} {base base' : Nat} {v : Value} {l : List UInt8} (h : Own w base v l) (hb : base' ≤ base) : Own w base' v l :=
  ⟨h.1, h.2.imp id fun ⟨g, cap, cur, p, q, r⟩ => ⟨g, cap, cur, p, Nat.le_trans hb q, r⟩⟩

end Go.Proofs.YtldmjnbmjfnfeaaGreatDoor
