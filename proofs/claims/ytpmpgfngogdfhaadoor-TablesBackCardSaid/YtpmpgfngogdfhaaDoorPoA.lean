/-
  A pool in memory, and the contracts of layer 4's New, made, Find, Count and Bytes.
-/
import Derived.Test.YtpmpgfngogdfhaaDoorCsM
import Derived.Maps.OwnSet
import Derived.Test.YtpmpgfngogdfhaaDoorPut
import Derived.Lib.BytesEntry
import Derived.Lib.AppendStr
import Derived.Laws.Externs
import Derived.Deep.Slices
import Derived.Lib.BufferWrite
import Derived.Lib.UnsafeStr
import Derived.Laws.MakeOwn
import Derived.Test.YtpmpgfngogdfhaaDoorCsL
namespace Go.Proofs.YtpmpgfngogdfhaaDoor
open Go Go.RowKit Go.Maps

/-- Nothing below 'base' has turned, and no block but of the kinds told. -/
def Only (base : Nat) (bad : Obj → Prop) (w w' : World) : Prop := Below base w w' ∧ ∀ (k : Nat) (o : Obj), w.heap[k]? = some o → ¬ bad o → w'.heap[k]? = some o

theorem Only.refl (base : Nat) (bad : Obj → Prop) (w : World) : Only base bad w w := ⟨Below.refl _ _, fun _ _ h _ => h⟩
theorem Only.trans {base : Nat} {bad : Obj → Prop} {a b c : World} (h : Only base bad a b) (k : Only base bad b c) : Only base bad a c := ⟨h.1.trans k.1, fun j o hj hb => k.2 j o (h.2 j o hj hb) hb⟩
theorem Only.below {base : Nat} {bad : Obj → Prop} {a b : World} (h : Below a.heap.size a b) (hb : base ≤ a.heap.size) : Only base bad a b :=
  ⟨h.mono hb, fun j _ hj _ => (h.block j (Array.getElem?_eq_some_iff.1 hj).1).trans hj⟩
theorem Only.row {base g : Nat} {bad : Obj → Prop} {a b : World} {o : Obj} (h : a.grownBy b (some g)) (hg : a.heap[g]? = some o) (ho : bad o) (hb : base ≤ g) : Only base bad a b := by
  refine ⟨below_of_only h (by have := (Array.getElem?_eq_some_iff.1 hg).1; omega) (fun k hk => by injection hk with hk; omega), fun j p hj hp => ?_⟩
  by_cases e : j = g
  · subst e
    rw [hg] at hj
    injection hj with hj
    subst hj
    exact absurd ho hp
  · exact (h.block j (Array.getElem?_eq_some_iff.1 hj).1 (by simpa using e)).trans hj
theorem Only.drewN {base : Nat} {bad : Obj → Prop} {a b : World} (h : Only base bad a b) (n : Nat) : Only base bad a (b.drewN n) := ⟨below_drewN h.1 n, h.2⟩

section
variable {w w' : World} {base g mb : Nat} {v : Value} {ls : List (List UInt8)}

end

theorem map_nil (w : World) (m : Option Nat) : (binOp .neq 101 (.map m) (.map none)).run Tryd.prog w = .ok (.bool (!m.isNone)) w := run_neq_map_nil w _ _ _ m Tryd.underlying101
end Go.Proofs.YtpmpgfngogdfhaaDoor
